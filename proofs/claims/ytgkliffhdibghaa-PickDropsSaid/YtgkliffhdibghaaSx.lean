/- The contracts of the queue's calls that package heap asks for: Push and Pop; the first item. -/
import Derived.Test.YtgkliffhdibghaaSw
import Derived.Maps.AppendAt
import Derived.Deep.AppendLies
import Derived.Deep.RegionLaw
import Derived.Deep.CutRange
import Derived.StillTailTactics
namespace Go.Proofs.Ytgkliffhdibghaa
open Go.RowKit

/-- An appending whose run is known, as one step of a region that draws. -/
theorem step_append_run {P : Program} {ops : Array Oper} {o : Oper} {a : Act} {w : World} {K : Act → World → Prop} {Q : Exit → Act → World → Prop} {E : Prop}
    (hg : o.guard = none) (d x : Operand) (t : TypeId) (hop : o.op = Op.call { callee := Callee.builtin Builtin.append, args := #[d, x], argTypes := #[t, t] })
    (v u : Value) (hd : a.eval d = v) (hx : a.eval x = u) {v' : Value} {w' : World} (hr : (Builtin.append_ #[t, t] o.type #[v, u]).run P w = .ok v' w') (hK : K (a.put o.dst v') w') :
    if Region.wanted o (yielded ops a.tmps) = true then Oper.wp P o a w K Q else E := by
  have hw : Region.wanted o (yielded ops a.tmps) = true := by simp [Region.wanted, hg]
  rw [if_pos hw]
  unfold Oper.wp
  simp [execOp, hop, resolve, invoke, builtin, hd, hx, hr, Result.andThen]
  exact hK
theorem new_cells (W : World) (t : TypeId) (x y : Int) : ∀ j u, [Value.int .i64 x, Value.int .i64 y][j]? = some u → ((W.alloc (.cells #[.int .i64 x, .int .i64 y] t)).drewN 1).cell? ((⟨W.heap.size, 0, none⟩ : Addr).add j) = some u := fun j u h => by
  have hr : Lrow (W.alloc (.cells #[.int .i64 x, .int .i64 y] t)) W.heap.size t [.int .i64 x, .int .i64 y] := Lrow.new W t _
  have e : (⟨W.heap.size, 0, none⟩ : Addr).add j = ⟨W.heap.size, j, none⟩ := by unfold Addr.add; split <;> simp_all
  rw [e]
  exact ((hr.drewN 1).cell j).trans h
theorem two_one (x y : Int) : ∀ u ∈ [Value.int .i64 x, Value.int .i64 y], u.oneCell' = true := by
  intro u h; simp only [List.mem_cons, List.not_mem_nil, or_false] at h; rcases h with rfl | rfl <;> rfl
theorem own_call {w w' : World} {B : Nat} {v : Value} {n : Nat} {xs : List Value} {t : TypeId} {s : Nat} (h : w.ownsRow B t s v n xs) (hb : Below w.heap.size w w') : w'.ownsRow B t s v n xs :=
  own_heap h fun g e => hb.block g (by obtain ⟨vs, r, _⟩ := own_block h e; exact r.lt)
theorem app_run {W : World} {C : Nat} {v : Value} {M : List It} (te ts : TypeId) (hu : Try.prog.underlying ts = some (.slice te)) (hinfo : (Try.prog.info? te).map (fun i => (i.zero, i.size, i.bytes)) = some (some (.agg #[.int .i64 0, .int .i64 0]), 2, 16))
    (hC : C ≤ W.heap.size) (hown : W.ownsRow C te 2 v M.length (pcells M)) (hM : M.length ≤ 6000) (x : It) : ∃ A c W3,
    (Builtin.append_ #[ts, ts] ts #[v, .slice (some ⟨W.heap.size, 0, none⟩) 1 1]).run Try.prog (W.alloc (.cells #[.int .i64 x.1, .int .i64 x.2] te)).drew = .ok (.slice A (M.length + 1) c) W3 ∧
    W3.ownsRow C te 2 (.slice A (M.length + 1) c) (M ++ [x]).length (pcells (M ++ [x])) ∧ W.grownBy W3 v.ownBlock ∧ ((Value.slice A (M.length + 1) c).ownBlock = v.ownBlock ∨ ∃ g, (Value.slice A (M.length + 1) c).ownBlock = some g ∧ W.heap.size ≤ g) := by
  obtain ⟨i0, hi0, hz0, hz1, hz2⟩ := info_parts hinfo
  have ho := own_call hown (below_dN ((Below.refl W.heap.size W).alloc (Nat.le_refl _) (.cells #[.int .i64 x.1, .int .i64 x.2] te)) 1)
  obtain ⟨v1, W1, r1, o1, g1, -, t1⟩ := run_append_own_at (P := Try.prog) (w := (W.alloc (.cells #[.int .i64 x.1, .int .i64 x.2] te)).drewN 1) C ts ts te i0 (.agg #[.int .i64 0, .int .i64 0]) 2 16 hu hi0 hz0 hz1 hz2 rfl (by decide) v M.length _ ho ⟨W.heap.size, 0, none⟩ 1 1 [.int .i64 x.1, .int .i64 x.2] rfl (new_cells W te x.1 x.2) (two_one x.1 x.2) (by unfold maxLen; omega) (by omega) (by simp; omega)
  obtain ⟨A, c, hv⟩ := own_form o1
  subst hv
  refine ⟨A, c, W1, r1, ?_, ?_, ?_⟩
  · rw [List.length_append, pcells_append]
    simpa [pcells] using o1
  · have : W.grownBy ((W.alloc (.cells #[.int .i64 x.1, .int .i64 x.2] te)).drewN 1) v.ownBlock := ⟨rfl, rfl, rfl, by simp, fun i hi _ => Below.heap_alloc W _ i hi⟩
    exact this.trans g1
  · rcases t1 with e | e
    · exact Or.inl e
    · exact Or.inr ⟨_, e, by simp⟩
section
variable {w w' : World} {B q m n : Nat} {iv : Value} {L L' : List It} {M M' : Int → Option Int}
/-- The row of the items has been laid anew: there, or in a new block; and the struct tells so. -/
theorem Lay.items_new {w5 : World} {iv' : Value} (h : Lay B w q m iv L n M) (hg : w.grownBy w5 iv.ownBlock) (ho : w5.ownsRow B 55 2 iv' L'.length (pcells L')) :
    Lay B (w5.setCell ⟨q, 0, none⟩ iv') q m iv' L' n M ∧ Foot (Mine q m iv) w (w5.setCell ⟨q, 0, none⟩ iv') ∧ Lrow w5 q 58 [iv, .map (some m), .func (.func 21) #[] #[]] := by
  have hq : some q ≠ iv.ownBlock := fun e => by
    obtain ⟨vs, r, _⟩ := own_block h.own e.symm
    exact h.top.apart r (by decide) rfl
  have hm : some m ≠ iv.ownBlock := fun e => by
    obtain ⟨vs, r, _⟩ := own_block h.own e.symm
    exact h.map.apart r rfl
  have ht := h.top.grown hg hq
  have hm5 : MapIs w5 m n M := h.map.heap (hg.block m h.map.lt hm)
  have hmq : q ≠ m := hm5.apart ht
  refine ⟨⟨ht.set_ 0 iv', own_heap ho (fun g e => ?_), hm5.heap (Below.heap_setCell w5 ⟨q, 0, none⟩ iv' m hmq.symm), h.lq, h.lm⟩, ?_, ht⟩
  · obtain ⟨vs, r, _⟩ := own_block ho e
    exact Below.heap_setCell w5 ⟨q, 0, none⟩ iv' g (r.apart ht (by decide))
  · exact (Foot.grownO hg (fun b e _ => Or.inr (Or.inr e))).trans (Foot.grown (X := fun k => k = q) (grown_set w5 q 0 iv') rfl) (fun b e _ => Or.inl e)
end
theorem info_item : (Try.prog.info? 55).map (fun i => (i.zero, i.size, i.bytes)) = some (some (.agg #[.int .i64 0, .int .i64 0]), 2, 16) := by kernel_rfl
theorem items_slice : Try.prog.underlying 56 = some (.slice 55) := by kernel_rfl
/-- An item has been laid at the end. -/
def Pushed (B : Nat) (w : World) (q m : Nat) (iv : Value) (L : List It) (x : It) (e : Ending) (w' : World) : Prop :=
  e = .returned (.tuple #[]) ∧ ∃ iv' M', Que B w' q m iv' (L ++ [x]) M' ∧ Foot (Mine q m iv) w w' ∧ (iv'.ownBlock = iv.ownBlock ∨ ∃ g, iv'.ownBlock = some g ∧ w.heap.size ≤ g)
theorem AllFit.push {L : List It} (h : AllFit L) {x : It} (hx : (0 ≤ x.1 ∧ x.1 ≤ 1023) ∧ Fits x.2) : AllFit (L ++ [x]) := fun y hy => by
  rcases List.mem_append.1 hy with hy | hy
  · exact h y hy
  · rw [List.mem_singleton.1 hy]; exact hx
theorem assert_item (w : World) (v : Value) : (Instr.typeAssert (.iface 55 v) 20 55 true).run Try.prog w = .ok (.tuple #[v, .bool true]) w := by kernel_rfl
set_option maxHeartbeats 4000000 in
theorem push_any {B : Nat} {w : World} {q m : Nat} {iv : Value} {L : List It} {M : Int → Option Int} (h : Que B w q m iv L M) {f v : Int} (hf : 0 ≤ f ∧ f ≤ 1023) (hv : Fits v) (hM : M f = none) (hl : L.length < 5000) :
    Calls Try.prog 54 #[.pointer (some ⟨q, 0, none⟩), .iface 55 (.agg #[.int .i64 f, .int .i64 v])] w (Pushed B w q m iv L (f, v)) := by
  obtain ⟨A, c, hiv⟩ := own_form h.own
  subst hiv
  obtain ⟨W, hW⟩ : ∃ W, W = w.alloc (.cells #[.int .i64 f, .int .i64 v] 55) := ⟨_, rfl⟩
  obtain ⟨n0, hn0⟩ : ∃ n0, n0 = w.heap.size := ⟨_, rfl⟩
  have HX : Hid (Lrow W n0 55 [.int .i64 f, .int .i64 v]) := by
    show Lrow _ _ _ _
    rw [hW, hn0]; exact Lrow.new w _ _
  have hlW : Lay B W q m (.slice A L.length c) L L.length M := by rw [hW]; exact h.lay.alloc _
  have HQ := Lib.hid h
  have hb0 : Below w.heap.size w W := by rw [hW]; exact (Below.refl _ _).alloc (Nat.le_refl _) _
  have HM := Lib.hid hM
  have HW := Lib.hid hW
  have HN0 := Lib.hid hn0
  have HLW := Lib.hid hlW
  have HL := Lib.hid hl
  have hta := assert_item w (.agg #[.int .i64 f, .int .i64 v])
  clear hM hW hn0 hlW h hl
  go_enter Try.func54, Try.ntmps54
  go_wp2_with fail
  rw [← HW.out, ← HN0.out]
  have hlW := HLW.out
  obtain ⟨W2, hr2, hg2, hm2⟩ := hlW.drew.map.put (f := f) (v := L.length) (by have := HL.out; omega) (fits_fr hf) (fits_of (by have := HL.out; omega))
  rw [HM.out, Option.isSome_none, if_neg (by decide)] at hm2
  obtain ⟨hl2, hft2⟩ := hlW.drew.mapped hg2 hm2
  have hx2 : Lrow W2 n0 55 [.int .i64 f, .int .i64 v] := (HX.out.drewN 1).grown hg2 (by simpa using hlW.map.apart HX.out)
  have hk0 := hlW.c0
  have hk1 := hlW.c1
  have hx0 : W.cell? ⟨n0, 0, none⟩ = some (.int .i64 f) := HX.out.cell 0
  have LAY2 := Lib.hid hl2
  have FT2 := Lib.hid hft2
  have HX2 := Lib.hid hx2
  clear hlW hg2 hm2 hl2 hft2 hx2 hb0
  go_region
  all_goals go_wp2_with fail
  clear hr2 hk0 hk1 hx0
  obtain ⟨A5, c5, W5, r5, o5, g5, t5⟩ := app_run (C := B) 55 56 items_slice info_item (by have := LAY2.out.lq; have := LAY2.out.top.lt; omega) LAY2.out.own (by have := HL.out; omega) (f, v)
  obtain ⟨hl5, hf5, ht5⟩ := LAY2.out.items_new g5 o5
  have hcz := LAY2.out.c0
  have hn1 : W2.cell? ⟨n0, 0, none⟩ = some (.int .i64 f) := HX2.out.cell 0
  have hn2 : W2.cell? ⟨n0, 1, none⟩ = some (.int .i64 v) := HX2.out.cell 1
  have hq4 := LAY2.out.top.lt
  have hqn : ¬ q = W2.heap.size := by omega
  have hn4 := HX2.out.lt
  have hnn : ¬ n0 = W2.heap.size := by omega
  have hc5 : W5.cell? ⟨q, 0, none⟩ = some (.slice A L.length c) := ht5.cell 0
  have hz5 := ht5.frozen 0
  have LAY5 := Lib.hid hl5
  have FT5 := Lib.hid hf5
  have T5 := Lib.hid t5
  clear hl5 hf5 ht5 o5 g5 t5
  have HFT := Lib.hid (HQ.out.fit.push (x := (f, v)) ⟨hf, hv⟩)
  have HLE : Hid ((L ++ [(f, v)]).length ≤ 5000) := by
    show _ ≤ _
    rw [List.length_append]; have := HL.out; simp; omega
  obtain ⟨n, hn⟩ : ∃ n, n = L.length := ⟨_, rfl⟩
  rw [← hn] at r5 hcz hc5 LAY5 FT5 T5 ⊢
  have HN := Lib.hid hn
  have HLL : Hid (n + 1 = (L ++ [(f, v)]).length) := by show _ = _; rw [hn, List.length_append]; rfl
  have HIX : Hid (Idx (L ++ [(f, v)]) (updM M f (some (n : Int)))) := by
    show Idx _ _
    rw [hn]; exact HQ.out.idx.push (x := (f, v)) HM.out
  clear hn hf hv hta HX
  go_region_law (refine step_append_run (by rfl) _ _ 56 (by rfl) (.slice A n c) (.slice (some ⟨W2.heap.size, 0, none⟩) 1 1) (by simp [Act.eval]) (by simp [Act.eval]) r5 ?_)
  all_goals
    go_wp2_with fail
    go_end0
    refine ⟨rfl, _, _, LAY5.out.que HLL.out HIX.out HFT.out HLE.out, ?_, ?_⟩
    · have h1 : Foot (Mine q m (.slice A n c)) w W.drew := by rw [HW.out]; exact Foot.of_below (below_dN ((Below.refl _ _).alloc (Nat.le_refl _) _) 1)
      have h2 := FT2.out
      rw [← HN.out] at h2
      exact (h1.trans h2 (fun _ h _ => h)).trans FT5.out (fun _ h _ => h)
    · rcases T5.out with e | ⟨g, e, hg⟩
      · exact Or.inl e
      · refine Or.inr ⟨g, e, Nat.le_trans ?_ hg⟩
        have h2 := FT2.out.size
        rw [HW.out] at h2
        simp at h2
        omega
section
variable {w w' : World} {B q m n : Nat} {iv : Value} {L L' : List It} {M M' : Int → Option Int}
/-- The row has got shorter. -/
theorem Lay.shrink {g c k j : Nat} (h : Lay B w q m (.slice (some ⟨g, 0, none⟩) k c) L n M) (hk : k = L.length) (hj : j ≤ L.length) :
    Lay B (w.setCell ⟨q, 0, none⟩ (.slice (some ⟨g, 0, none⟩) j c)) q m (.slice (some ⟨g, 0, none⟩) j c) (L.take j) n M ∧ Foot (Mine q m (.slice (some ⟨g, 0, none⟩) k c)) w (w.setCell ⟨q, 0, none⟩ (.slice (some ⟨g, 0, none⟩) j c)) := by
  subst hk
  obtain ⟨rest, hr, hB, hn, hc, hs⟩ := own_row h.own rfl
  have hlj : (L.take j).length = j := by rw [List.length_take]; omega
  have e1 : pcells L ++ rest = pcells (L.take j) ++ (pcells (L.drop j) ++ rest) := by rw [← List.append_assoc, ← pcells_append, List.take_append_drop]
  rw [e1] at hr
  have ho := own_of_row (n := (L.take j).length) (c := c) hr hB (by omega) hc (pcells_length _) (by
    have : (pcells L ++ rest).length = (pcells (L.take j) ++ (pcells (L.drop j) ++ rest)).length := by rw [e1]
    simp only [List.length_append] at this hs ⊢
    omega)
  have e2 : Value.slice (some (⟨g, 0, none⟩ : Addr)) (L.take j).length c = Value.slice (some ⟨g, 0, none⟩) j c := by rw [hlj]
  rw [e2] at ho
  have := h.items_new (iv' := .slice (some ⟨g, 0, none⟩) j c) (L' := L.take j) (w5 := w) (World.grownBy.refl _ _) ho
  exact ⟨this.1, this.2.1⟩
end
/-- The last item has been taken out. -/
def Popped (B : Nat) (w : World) (q m : Nat) (iv : Value) (L : List It) (n : Nat) (e : Ending) (w' : World) : Prop :=
  e = .returned (.iface 55 (.agg #[.int .i64 (at' L n).1, .int .i64 (at' L n).2])) ∧ ∃ iv' M', Que B w' q m iv' (L.take n) M' ∧ Foot (Mine q m iv) w w' ∧ iv'.ownBlock = iv.ownBlock
set_option maxHeartbeats 4000000 in
theorem pop_any {B : Nat} {w : World} {q m : Nat} {iv : Value} {L : List It} {M : Int → Option Int} (h : Que B w q m iv L M) {n : Nat} (hn : L.length = n + 1) :
    Calls Try.prog 53 #[.pointer (some ⟨q, 0, none⟩)] w (Popped B w q m iv L n) := by
  obtain ⟨A, c, hiv⟩ := own_form h.own
  subst hiv
  obtain ⟨g, hA, hc, hcm, hgl, hB, hfz, hit⟩ := h.items (by omega)
  subst hA
  obtain ⟨a1, a2⟩ := hit n (by omega)
  obtain ⟨⟨f1, f2⟩, f3⟩ := h.fit.at_ (k := n) (by omega)
  have HQ := Lib.hid h
  have HIX := Lib.hid (h.idx.pop hn)
  have HM := Lib.hid (h.idx.at_ n (by omega))
  have h0 := h.c0
  rw [hn] at h0
  have hql := h.top.lt
  have hqf := h.top.frozen 0
  obtain ⟨x, hx⟩ : ∃ x, x = (at' L n).1 := ⟨_, rfl⟩
  obtain ⟨v, hv⟩ : ∃ v, v = (at' L n).2 := ⟨_, rfl⟩
  rw [← hx] at a1 f1 f2 HM HIX
  rw [← hv] at a2
  have HX := Lib.hid hx
  have HV := Lib.hid hv
  have HN := Lib.hid hn
  have hnc : n + 1 ≤ c := by omega
  have n0 : (0 : Int) ≤ n := by omega
  have n5 : (n : Int) ≤ 5000 := by have := h.len; omega
  clear hit hfz hx hv hc h hn hcm hB f3
  go_enter Try.func53, Try.ntmps53
  go_wp2_with fail
  obtain ⟨hl1, hf1⟩ := HQ.out.lay.shrink rfl (j := n) (by rw [HN.out]; omega)
  have hlW := hl1.alloc (.cells #[.int .i64 x, .int .i64 v] 55)
  have hsz : (w.setCell ⟨q, 0, none⟩ (.slice (some ⟨g, 0, none⟩) n c)).heap.size = w.heap.size := by simp [World.setCell]
  have hxb : Lrow ((w.setCell ⟨q, 0, none⟩ (.slice (some ⟨g, 0, none⟩) n c)).alloc (.cells #[.int .i64 x, .int .i64 v] 55)) w.heap.size 55 [.int .i64 x, .int .i64 v] := by
    rw [← hsz]; exact Lrow.new _ _ _
  have hfW : Foot (Mine q m (.slice (some ⟨g, 0, none⟩) L.length c)) w ((w.setCell ⟨q, 0, none⟩ (.slice (some ⟨g, 0, none⟩) n c)).alloc (.cells #[.int .i64 x, .int .i64 v] 55)) :=
    hf1.trans (Foot.of_below (X := fun _ => False) ((Below.refl _ _).alloc (Nat.le_refl _) _)) (fun _ h _ => h.elim)
  generalize ((w.setCell ⟨q, 0, none⟩ (.slice (some ⟨g, 0, none⟩) n c)).alloc (.cells #[.int .i64 x, .int .i64 v] 55)) = W at hlW hxb hfW ⊢
  generalize w.heap.size = b0 at hxb ⊢
  obtain ⟨W2, hr2, hg2, hm2⟩ := hlW.drew.map.drop (f := x) (fits_fr ⟨f1, f2⟩) 0
  rw [HM.out, Option.isSome_some, if_pos rfl, HN.out] at hm2
  obtain ⟨hl2, hf2⟩ := hlW.drew.mapped hg2 hm2
  have hk1 := hlW.c1
  have hb1 : W.cell? ⟨b0, 0, none⟩ = some (.int .i64 x) := hxb.cell 0
  have hx2 : Lrow W2 b0 55 [.int .i64 x, .int .i64 v] := (hxb.drewN 1).grown hg2 (by simpa using hlW.map.apart hxb)
  have hb2 : W2.cell? ⟨b0, 0, none⟩ = some (.int .i64 x) := hx2.cell 0
  have hb3 : W2.cell? ⟨b0, 1, none⟩ = some (.int .i64 v) := hx2.cell 1
  have LAY2 := Lib.hid hl2
  have FT2 := Lib.hid hf2
  have FTW := Lib.hid hfW
  have hln : Hid ((L.take n).length = n) := by show _ = _; rw [List.length_take, HN.out]; omega
  clear hl1 hf1 hlW hsz hxb hfW hg2 hm2 hl2 hf2 hx2 hql hqf h0 a1 a2 hgl
  go_region
  all_goals go_wp2_with fail
  all_goals go_ret
  unfold Popped
  rw [← HX.out, ← HV.out]
  refine ⟨rfl, _, _, LAY2.out.que (by rw [hln.out]; omega) HIX.out (fun y hy => HQ.out.fit y (List.mem_of_mem_take hy)) (by rw [hln.out]; have := HQ.out.len; have := HN.out; omega), ?_, rfl⟩
  exact (FTW.out.drewN 1).trans FT2.out (fun k hk _ => hk)
end Go.Proofs.Ytgkliffhdibghaa
