/- Frames for tables that are given back: the contract of give. -/
import Derived.Test.YtpcpcgbejinlmaaMk21
import Derived.Test.YtpcpcgbejinlmaaMk20
import Derived.Test.YtpcpcgbejinlmaaMk08
namespace Go.Proofs.Ytpcpcgbejinlmaa
open Go.RowKit Go.Shelf
attribute [local go_sem] Oper.semAt_some
section
variable {w : World} {s : Seat} {v : Value} {ws L R : List Int}
structure Giv (w : World) (s : Seat) (v : Value) (ws L R : List Int) (A : Option Addr) (n c : Nat) (W : World) : Prop where
  st : ∃ v', Tab W s v' ws L R ∧ Mv s v w v' W
  box : Row W w.heap.size 34 [.pointer (some ⟨s.x, 0, none⟩)]
  sl : Row W (w.heap.size + 1) 44 [.slice A n c]
theorem Giv.step {A : Option Addr} {n c B : Nat} {W W' : World} {row : Option Nat} (h : Giv w s v ws L R A n c W) (hm : s.m < B) (hB : w.heap.size ≤ B) (hg : W.grownBy W' row) (hr : ∀ r, row = some r → B ≤ r ∧ ∃ o : Obj, W.heap[r]? = some o ∧ o.isCells = false) : Giv w s v ws L R A n c W' := by
  obtain ⟨v', hT, hM⟩ := h.st
  have hrow : ∀ {g : Nat} {t : TypeId} {c : List Value}, Row W g t c → some g ≠ row := fun hc e => by
    obtain ⟨-, o, ho, hno⟩ := hr _ e.symm
    unfold Row at hc
    rw [hc] at ho
    injection ho with ho
    rw [← ho] at hno
    cases hno
  exact ⟨⟨v', hT.step hm hg hr, hM.step hB hg hr⟩, h.box.grown hg (hrow h.box), h.sl.grown hg (hrow h.sl)⟩
set_option maxRecDepth 100000 in
set_option maxHeartbeats 4000000 in
theorem give_any (h : Tab w s v ws L R) {A : Option Addr} {n : Nat} (c : Nat) {l : List Int} (hl : Loc w s v A n l) (hLl : L.length + l.length ≤ 2000) :
    Calls Try.prog 31 #[.pointer (some ⟨s.x, 0, none⟩), .slice A n c] w fun e w' => e = .returned (.tuple #[]) ∧ ∃ v', Tab w' s v' ws (L ++ l.reverse) R ∧ Mv s v w v' w' := by
  have hn := hl.ints.len
  subst hn
  have hsm := h.set.lt
  obtain ⟨W0, hW0⟩ : ∃ W0, W0 = (w.alloc (.cells #[.pointer (some ⟨s.x, 0, none⟩)] 34)).alloc (.cells #[.slice A l.length c] 44) := ⟨_, rfl⟩
  have hsz : W0.heap.size = w.heap.size + 2 := by rw [hW0]; simp
  have B0 : Below w.heap.size w W0 := by rw [hW0]; exact ((Below.refl _ _).alloc (Nat.le_refl _) _).alloc (by simp) _
  have hbox : Row W0 w.heap.size 34 [.pointer (some ⟨s.x, 0, none⟩)] := by rw [hW0]; exact (Row.new w _ [.pointer (some ⟨s.x, 0, none⟩)]).alloc _
  have hsl : Row W0 (w.heap.size + 1) 44 [.slice A l.length c] := by
    have := Row.new (w.alloc (.cells #[.pointer (some ⟨s.x, 0, none⟩)] 34)) 44 [.slice A l.length c]
    rw [hW0]; simpa using this
  have hT0 := h.call B0
  have hG0 : Giv w s v ws L R A l.length c W0 := ⟨⟨v, hT0, Mv.of_below B0⟩, hbox, hsl⟩
  obtain ⟨g, hg, hgl, hA⟩ : ∃ g, (0 < l.length → g < w.heap.size ∧ ¬ Mine s v g) ∧ g < W0.heap.size ∧ (0 < l.length → ∃ a, A = some a ∧ a.block = g ∧ g < W0.heap.size ∧ ∀ j, j < l.length → W0.cell? (a.add j) = some (.int .i64 (l.getD j 0))) := by
    by_cases h0 : 0 < l.length
    · obtain ⟨a, rfl, hab, hc⟩ := hl.ints.at_ h0
      refine ⟨a.block, fun _ => ⟨hab, hl.off h0 a rfl⟩, by omega, fun _ => ⟨a, rfl, rfl, by omega, fun j hj => ?_⟩⟩
      rw [← hc j hj]
      have : (a.add j).block = a.block := by unfold Addr.add; split <;> rfl
      exact B0.cell (by rw [this]; exact hab)
    · exact ⟨w.heap.size, fun k => absurd k h0, by omega, fun k => absurd k h0⟩
  have hst := back_stops Fence.wide 2 trivial rfl (by omega) (w.heap.size + 1) g A c l (by omega) W0 (by omega) (hsl.cell 0) hA
  have HLL := Lib.hid hLl
  have HW := Lib.hid hW0
  have HA := Lib.hid hA
  have HG := Lib.hid hg
  clear hl h hA hT0 hbox hsl hLl hg
  refine (callsIn_wide (n := 3)).1 ?_
  refine callsIn_of_wp_marks Try.func31 rfl trivial ?_ rfl
  simp only [Try.ntmps31, List.size_toArray, List.length_cons, List.length_nil, Nat.reduceAdd, Nat.reduceSub, Array.replicate_succ, Array.replicate_zero, List.push_toArray, List.append_toArray, List.nil_append, List.cons_append]
  gi_wp2_with (refine ⟨trivial, ?_⟩; gi_at_call 53; refine (backward_in Fence.wide 2 trivial rfl _ _ _ _).mono ?_; rintro e w' ⟨rfl, rfl⟩)
  rw [← hW0]
  refine wpIn_rangeFunc_ownG (F := Fence.wide) rfl (by omega) (gf := 73) (lb := #[.pointer (some ⟨w.heap.size + 1, 0, none⟩)]) rfl trivial (enters_of Try.func73 (by kernel_rfl) rfl)
    hst (fun h k => h.trans k) (KpC.put hgl (by omega)) (Below.refl _ _) (fun _ => rfl)
    (fun pre W => Giv w s v ws (L ++ pre.map (·.2)) R A l.length c W) (fun _ _ _ => False)
    (fun pre W W' row hs hg hr => hs.step (by omega) (by omega) hg hr) (fun _ _ _ _ _ hs _ _ => hs) (by simpa using hG0)
    (fun x => { tmps := #[.pointer (some ⟨s.x, 0, none⟩), .slice A l.length c, .pointer (some ⟨w.heap.size, 0, none⟩), undef, undef, .int .i64 x.2, .slice A l.length c, .func (.func 73) #[] #[.pointer (some ⟨w.heap.size + 1, 0, none⟩)], .int .i64 x.1, .int .i64 x.2, undef, undef, undef, undef, undef, undef], defers := [] }) ?assign ?body ?done ?stop
  case assign =>
    intro q x W K hK
    gi_wp2
    exact hK
  case body =>
    rintro q pre x W hI hlt
    obtain ⟨⟨v', hT, hM⟩, hb, hs⟩ := hI
    have c0 : W.cell? ⟨w.heap.size, 0, none⟩ = some (.pointer (some ⟨s.x, 0, none⟩)) := hb.cell 0
    obtain ⟨-, c1, -⟩ := hT.cells
    unfold bagV at c1
    have hmp := fun k => meth_put k W ⟨s.y, 0, none⟩
    have hput := tabPut (f := x.2) hT (by have := HLL.out; simp at hlt ⊢; omega)
    gi_wp2_with (refine ⟨trivial, ?_⟩; gi_at_call 113; refine (CallsIn.inRound q (callsIn_wide.2 hput)).mono ?_; rintro e W1 ⟨rfl, v1, hT1, hM1, hcl⟩)
    have hg := HG.out (by omega)
    refine ⟨⟨hM1.size, fun k o _ hk ho => hcl k o hk ho⟩, ⟨hM1.size, fun k hk hl => hM1.foot.keep k hl ?_⟩, ⟨v1, ?_, hM.trans hM1⟩, hT.row hM1 hb (by decide) (by decide) (by decide), hT.row hM1 hs (by decide) (by decide) (by decide)⟩
    · rcases hk with rfl | rfl
      · exact fun e => hg.2 (hM.back hg.1 e)
      · exact hT.apart hs (by decide) (by decide) (by decide)
    · rw [List.map_append, ← List.append_assoc]; exact hT1
  case done =>
    rintro D ys W hD rfl hI hK
    gi_wp2
    refine ⟨by simp, .inl ⟨_, _, rfl, run_takeDeferred hK, ?_⟩⟩
    have hI2 := hI.step (B := W0.heap.size) (by omega) (by omega) (grownBy_putObj' W D (.deferred none)) (fun r e => by injection e with e; subst e; exact ⟨hD, _, hK, rfl⟩)
    obtain ⟨⟨v1, hT1, hM1⟩, -, -⟩ := hI2
    rw [bkUp_all] at hT1
    exact ⟨_, results_none rfl _ _ _, rfl, v1, hT1, hM1⟩
  case stop =>
    rintro D c pre W _ _ h _
    exact h.elim
end
end Go.Proofs.Ytpcpcgbejinlmaa
/- Frames for tables that are got: the contract of get. -/
namespace Go.Proofs.Ytpcpcgbejinlmaa
open Go.RowKit
def tk (L : List Int) (k : Nat) : List Int := L.reverse.take k
def gz (ws : List Int) (l : List Int) : List Int := l.foldl (fun u f => zeL u f 1) ws
theorem tk_length {L : List Int} {k : Nat} (h : k ≤ L.length) : (tk L k).length = k := by simp [tk]; omega
theorem tk_take {L : List Int} {k : Nat} (h : k < L.length) : L.take (L.length - k) = L.take (L.length - (k + 1)) ++ [L[L.length - (k + 1)]] := by
  have : L.length - k = L.length - (k + 1) + 1 := by omega
  rw [this, List.take_succ_eq_append_getElem (by omega)]
theorem tk_succ {L : List Int} {k : Nat} (h : k < L.length) : tk L (k + 1) = tk L k ++ [L[L.length - (k + 1)]] := by
  unfold tk
  rw [List.take_succ_eq_append_getElem (by simpa using h), List.getElem_reverse]
  congr 2
  congr 1
  omega
theorem tk_back (L : List Int) (k : Nat) : L.take (L.length - k) ++ (tk L k).reverse = L := by
  unfold tk
  rw [List.reverse_take, List.reverse_reverse, List.length_reverse, List.take_append_drop]
theorem tk_mem {L : List Int} {k : Nat} {f : Int} (h : f ∈ tk L k) : f ∈ L := by
  have := List.mem_of_mem_take h
  simpa using this
theorem gz_snoc (ws l : List Int) (f : Int) : gz ws (l ++ [f]) = zeL (gz ws l) f 1 := by simp [gz]
section
variable {w w' W W' : World} {s : Seat} {v v' : Value} {ws L R : List Int}
theorem Tab.keep (h : Tab w s v ws L R) (hs : w.heap.size ≤ w'.heap.size) (hk : ∀ k, (k = s.a ∨ k = s.x ∨ Mine s v k) → w'.heap[k]? = w.heap[k]?) : Tab w' s v ws L R := by
  have kr : ∀ {g : Nat} {t : TypeId} {c : List Value}, Row w g t c → (g = s.a ∨ g = s.x ∨ Mine s v g) → Row w' g t c := fun r e => (hk _ e).trans r
  refine ⟨⟨h.ram.len, h.ram.m8, h.ram.lo, h.ram.hi, h.ram.words, kr h.ram.top (Or.inl rfl), kr h.ram.row (Or.inr (Or.inr (Or.inl rfl))), h.ram.ne⟩, ⟨kr h.bag.top (Or.inr (Or.inr (Or.inr (Or.inl rfl)))), ⟨h.bag.row.1, ?_⟩, h.bag.len⟩, kr h.top (Or.inr (Or.inl rfl)), h.set.heap (hk _ (Or.inr (Or.inr (Or.inr (Or.inr (Or.inl rfl)))))), h.yC, Nat.le_trans h.Cw hs⟩
  rcases h.bag.row.2 with e | ⟨g, cap, cur, e, hb, hc, r⟩
  · exact Or.inl e
  · refine Or.inr ⟨g, cap, cur, e, hb, ?_, r⟩
    rw [hk g (Or.inr (Or.inr (Or.inr (Or.inr (Or.inr (by rw [e]; rfl))))))]
    exact hc
theorem Mv.above (h : Mv s v w v' W) (ho : W'.os = W.os) (ht : W'.tape = W.tape) (hu : W'.output = W.output) (hs : W.heap.size ≤ W'.heap.size) (hk : ∀ k, k < w.heap.size → W'.heap[k]? = W.heap[k]?) : Mv s v w v' W' :=
  ⟨⟨ho.trans h.foot.os, ht.trans h.foot.tape, hu.trans h.foot.output, Nat.le_trans h.size hs, fun k hl hx => (hk k hl).trans (h.foot.keep k hl hx)⟩, h.own⟩
theorem tabGet_none (h : Tab W s v ws [] R) : Calls Try.prog 112 #[.pointer (some ⟨s.y, 0, none⟩)] W fun e W' => e = .returned (.tuple #[.int .i64 0, .int .i64 8]) ∧ W = W' := bagGet_none h.bag
theorem tabGet_some {f : Int} (h : Tab W s v ws (L ++ [f]) R) : Calls Try.prog 112 #[.pointer (some ⟨s.y, 0, none⟩)] W fun e W' => e = .returned (.tuple #[.int .i64 f, .int .i64 0]) ∧ ∃ v', Tab W' s v' ws L R ∧ Mv s v W v' W' ∧ v'.ownBlock = v.ownBlock := by
  refine (bagGet_some f h.bag h.yC).mono ?_
  rintro e W' ⟨he, v', hb, hg, ho⟩
  have hne : ∀ {g : Nat} {t : TypeId} {c : List Value}, Row W g t c → t ≠ 46 → some g ≠ some s.y := fun r h1 e => by injection e with e; exact r.apart h.bag.top h1 e
  refine ⟨he, v', ⟨h.ram.grown hg (hne h.ram.top (by decide)) (hne h.ram.row (by decide)), hb, h.top.grown hg (hne h.top (by decide)), h.set.heap (hg.block _ h.set.lt (fun e => ?_)), h.yC, Nat.le_trans h.Cw hg.size⟩, ⟨Foot.grown hg (Or.inr (Or.inl rfl)), fun g hg0 => Or.inl (ho ▸ hg0)⟩, ho⟩
  injection e with e
  exact h.set.apart h.bag.top e.symm
def Got (w : World) (s : Seat) (v : Value) (ws L R : List Int) (n : Nat) (e : Ending) (w' : World) : Prop :=
  (L.length < n ∧ ∃ v', e = .returned (.tuple #[.slice none 0 0, .int .i64 8]) ∧ Tab w' s v' ws L R ∧ Mv s v w v' w') ∨
  (n ≤ L.length ∧ ∃ v' A c, e = .returned (.tuple #[.slice A n c, .int .i64 0]) ∧ Tab w' s v' (gz ws (tk L n)) (L.take (L.length - n)) R ∧ Mv s v w v' w' ∧ Loc w' s v' A n (tk L n))
structure Get1 (w : World) (s : Seat) (v : Value) (ws L R : List Int) (k : Nat) (A : Option Addr) (c : Nat) (W : World) : Prop where
  le : k ≤ L.length
  st : ∃ v', Tab W s v' ws (L.take (L.length - k)) R ∧ Mv s v w v' W ∧ v'.ownBlock = v.ownBlock
  row : W.ownsRow w.heap.size 3 1 (.slice A k c) k ((tk L k).map (Value.int .i64))
theorem Get1.loc {k c : Nat} {A : Option Addr} (h0 : Tab w s v ws L R) (h : Get1 w s v ws L R k A c W) : ∃ v', Tab W s v' ws (L.take (L.length - k)) R ∧ Mv s v w v' W ∧ v'.ownBlock = v.ownBlock ∧ Loc W s v' A k (tk L k) := by
  obtain ⟨v', hT, hM, ho⟩ := h.st
  refine ⟨v', hT, hM, ho, ints_of_own h.row, fun hk a ea hx => ?_⟩
  subst ea
  have hl := (h.row.lt a.block rfl).1
  have hb := h0.mine_lt (show Mine s v a.block by
    rcases hx with e | e | e | e
    · exact Or.inl e
    · exact Or.inr (Or.inl e)
    · exact Or.inr (Or.inr (Or.inl e))
    · exact Or.inr (Or.inr (Or.inr (ho ▸ e))))
  omega
theorem own_keep {B n z : Nat} {t : TypeId} {u : Value} {xs : List Value} (h : w.ownsRow B t z u n xs) (hk : ∀ g, u.ownBlock = some g → w'.heap[g]? = w.heap[g]?) : w'.ownsRow B t z u n xs := by
  refine ⟨h.1, ?_⟩
  rcases h.2 with e | ⟨g, cap, cur, e, hb, hc, r⟩
  · exact Or.inl e
  · refine Or.inr ⟨g, cap, cur, e, hb, ?_, r⟩
    rw [hk g (by rw [e]; rfl)]
    exact hc
theorem mine_old (h0 : Tab w s v ws L R) (ho : v'.ownBlock = v.ownBlock) {k : Nat} (hk : Mine s v' k) : k < w.heap.size := h0.mine_lt (by
  rcases hk with e | e | e | e
  · exact Or.inl e
  · exact Or.inr (Or.inl e)
  · exact Or.inr (Or.inr (Or.inl e))
  · exact Or.inr (Or.inr (Or.inr (ho ▸ e))))
theorem Get1.drew {k c : Nat} {A : Option Addr} (h : Get1 w s v ws L R k A c W) (n : Nat) : Get1 w s v ws L R k A c (W.drewN n) := by
  obtain ⟨v', hT, hM, ho⟩ := h.st
  exact ⟨h.le, ⟨v', hT.call (drewN_b8 _ _), hM.trans (Mv.of_below (drewN_b8 _ _)), ho⟩, own_keep h.row fun _ _ => rfl⟩
theorem Get1.more {k c : Nat} {A : Option Addr} {W1 : World} {v1 : Value} (h0 : Tab w s v ws L R) (h : Get1 w s v ws L R k A c W) (hk : k < L.length) (hk6 : k ≤ 6000) {f : Int} (hf : f = L[L.length - (k + 1)])
    (ho : v'.ownBlock = v.ownBlock) (hM : Mv s v w v' W) (hT1 : Tab W1 s v1 ws (L.take (L.length - (k + 1))) R) (hM1 : Mv s v' W v1 W1) (ho1 : v1.ownBlock = v'.ownBlock) :
    ∃ A5 c5 W5, (Builtin.append_ #[44, 44] 44 #[.slice A k c, .slice (some ⟨W1.heap.size, 0, none⟩) 1 1]).run Try.prog (W1.alloc (.cells #[.int .i64 f] 3)) = .ok (.slice A5 (k + 1) c5) W5 ∧
      Get1 w s v ws L R (k + 1) A5 c5 W5 ∧ Tab W5 s v1 ws (L.take (L.length - (k + 1))) R := by
  have hrow1 : W1.ownsRow w.heap.size 3 1 (.slice A k c) k ((tk L k).map (Value.int .i64)) := own_keep h.row fun g hg => by
    have hl := h.row.lt g hg
    exact hM1.foot.keep g hl.2 fun e => by have := mine_old h0 ho e; omega
  obtain ⟨A5, c5, W5, r5, o5, g5⟩ := app1_run (Nat.le_trans hM.size hM1.size) hrow1 hk6 f
  have hold : ∀ b, b < w.heap.size → W5.heap[b]? = W1.heap[b]? := fun b hb => g5.block b (Nat.lt_of_lt_of_le hb (Nat.le_trans hM.size hM1.size)) (fun e => by have := (hrow1.lt b e.symm).1; omega)
  have T5 : Tab W5 s v1 ws (L.take (L.length - (k + 1))) R := hT1.keep g5.size fun b hb => by
    refine hold b ?_
    rcases hb with rfl | rfl | e
    · exact h0.ram.top.lt
    · exact h0.top.lt
    · exact mine_old h0 (ho1.trans ho) e
  refine ⟨A5, c5, W5, r5, ⟨hk, ⟨v1, T5, (hM.trans hM1).above g5.os g5.tape g5.output g5.size hold, ho1.trans ho⟩, ?_⟩, T5⟩
  rw [tk_succ hk, List.map_append, ← hf]
  exact o5
set_option maxRecDepth 100000 in
set_option maxHeartbeats 4000000 in
theorem get_any (h : Tab w s v ws L R) (hf : ∀ f ∈ L, 0 ≤ f ∧ f < 512) (hL : L.length ≤ 1000) (n : Nat) (hn : n ≤ 100) : Calls Try.prog 26 #[.pointer (some ⟨s.x, 0, none⟩), .int .i64 n] w (Got w s v ws L R n) := by
  have HF := Lib.hid hf
  have H := Lib.hid h
  have HL := Lib.hid hL
  have hxs := h.top.lt
  clear h hf hL
  go_enter Try.func26, Try.ntmps26
  go_wp2
  go_loopw [6, 12] (fun lv i wr => ∃ (k : Nat) (A : Option Addr) (c : Nat), k ≤ n ∧ i = .int .i64 k ∧ lv = .slice A k c ∧ Get1 w s v ws L R k A c wr) (fun _ i _ => n - (intOf i).toNat)
  case atStart => exact ⟨0, none, 0, Nat.zero_le _, rfl, rfl, Nat.zero_le _, ⟨v, by simpa using H.out, Mv.refl _ _ _, rfl⟩, World.ownsRow_nil _ _ _ _⟩
  case round =>
    obtain ⟨k, A, c, hk, rfl, rfl, hG⟩ := hrel
    obtain ⟨v', hT, hM, ho, hloc⟩ := hG.loc H.out
    obtain ⟨x0, x1, -⟩ := hT.cells
    unfold bagV at x1
    have hmg := fun q => meth_get q wr ⟨s.y, 0, none⟩
    by_cases hlt : k < n
    · by_cases hkl : k < L.length
      · rw [tk_take hkl] at hT
        obtain ⟨f, ef⟩ : ∃ f, f = L[L.length - (k + 1)] := ⟨_, rfl⟩
        rw [← ef] at hT
        have hfb := HF.out f (by rw [ef]; exact List.getElem_mem _)
        have hget := tabGet_some hT
        have HGG := Lib.hid hG
        have HMM := Lib.hid hM
        have HO := Lib.hid ho
        have HEF := Lib.hid ef
        clear hG hloc hM ho hT ef
        go_wp2_with fail
        refine hget.mono ?_
        rintro e w1 ⟨rfl, v1, hT1, hM1, ho1⟩
        obtain ⟨A5, c5, W5, r5, G5, T5⟩ := HGG.out.more H.out hkl (by omega) HEF.out HO.out HMM.out hT1 hM1 ho1
        have hfe : frE f 0 = 0 := by simp [frE, szO]; omega
        have hcf := checkFrames_at T5 f 0 (Or.inl rfl)
        rw [hfe] at hcf
        have HG5 := Lib.hid G5
        clear T5 G5 hT1 hM1 ho1 hfe hget x0 x1 hfb HEF HO HMM HGG
        go_wp2_with (first | (at_builtin; refine wpList_append_run rfl _ _ 44 rfl (.slice A k c) (.slice (some ⟨w1.heap.size, 0, none⟩) 1 1) rfl rfl r5 ?_) | (go_at_call 48; refine hcf.mono ?_; rintro e w' ⟨rfl, nd, rfl⟩))
        go_roundw
        case rel => exact ⟨k + 1, A5, c5, by omega, by go_num, rfl, HG5.out.drew _⟩
        case measure => simp [intOf]; omega
      · obtain rfl : k = L.length := by have := hG.le; omega
        simp only [Nat.sub_self, List.take_zero] at hT
        have hget := tabGet_none hT
        have hgive := give_any hT c hloc (by have := HL.out; simp [tk]; omega)
        rw [show [] ++ (tk L L.length).reverse = L from by have := tk_back L L.length; simpa using this] at hgive
        have HMM := Lib.hid hM
        clear hG hloc hM ho hT
        go_wp2_with (first | (go_at_call 112; refine hget.mono ?_; rintro e w1 ⟨rfl, rfl⟩) | (go_at_call 31; refine hgive.mono ?_; rintro e w2 ⟨rfl, v2, hT2, hM2⟩))
        go_ret2
        exact Or.inl ⟨hlt, v2, rfl, hT2, HMM.out.trans hM2⟩
    · obtain rfl : k = n := by omega
      have hkL := hG.le
      have hlen : (tk L k).length = k := tk_length hkL
      obtain ⟨w9, h9⟩ : ∃ w9, w9 = wr := ⟨_, rfl⟩
      have HM0 : Hid (Mv s v w v' w9) := h9 ▸ hM
      have HLOC : Hid (Loc w9 s v' A k (tk L k)) := h9 ▸ hloc
      have H9 := Lib.hid h9
      have HT := Lib.hid hT
      have HLN := Lib.hid hlen
      clear hG hloc hM ho hT x0 x1 hmg h9
      go_wp2_with fail
      go_loopw [40] (fun i wx => ∃ j : Nat, j ≤ k ∧ i = .int .i64 j ∧ Tab wx s v' (gz ws ((tk L k).take j)) (L.take (L.length - k)) R ∧ w9.grownBy wx (some s.b)) (fun i _ => k - (intOf i).toNat)
      case atStart => exact ⟨0, Nat.zero_le _, rfl, by simpa [gz] using HT.out, H9.out ▸ World.grownBy.refl _ _⟩
      case round =>
        obtain ⟨j, hj, rfl, hTj, hgj⟩ := hrel
        have HGJ := Lib.hid hgj
        have hMj : Mv s v' w9 v' wr := Mv.turned hgj (Or.inl rfl)
        have hLj := HLOC.out.mv hMj
        by_cases hjk : j < k
        · obtain ⟨a, rfl, -, hcj⟩ := hLj.cell hjk
          obtain ⟨f, ef⟩ : ∃ f, f = (tk L k).getD j 0 := ⟨_, rfl⟩
          rw [← ef] at hcj
          have hfm : f ∈ L := by
            have : j < (tk L k).length := by rw [HLN.out]; exact hjk
            rw [ef, List.getD_eq_getElem?_getD, List.getElem?_eq_getElem this]
            exact tk_mem (List.getElem_mem _)
          have hfb := HF.out f hfm
          obtain ⟨x0, -, -⟩ := hTj.cells
          have hz := zero_any hTj.ram f 1 (by omega)
          have HTJ := Lib.hid hTj
          have HEF := Lib.hid ef
          clear hMj hLj hgj hTj ef
          go_wp2_with fail
          refine hz.mono ?_
          rintro e w2 ⟨rfl, h2, g2⟩
          have hT2 := HTJ.out.ramTurned h2 g2
          have HT2 := Lib.hid hT2
          have HG2 := Lib.hid (grown_trans1 HGJ.out g2)
          clear hz h2 g2 hT2
          go_wp2_with fail
          go_roundw
          case rel => exact ⟨j + 1, by omega, by go_num, by
            have hjl : j < (tk L k).length := by rw [HLN.out]; exact hjk
            have := HT2.out
            rw [List.take_succ_eq_append_getElem hjl, gz_snoc]
            rwa [HEF.out, List.getD_eq_getElem?_getD, List.getElem?_eq_getElem hjl] at this, HG2.out⟩
          case measure => simp [intOf]; omega
        · obtain rfl : j = k := by omega
          have HTJ : Hid (Tab wr s v' (gz ws (tk L j)) (L.take (L.length - j)) R) := by
            have := hTj
            rwa [List.take_of_length_le (by rw [HLN.out]; exact Nat.le_refl _)] at this
          have HLJ := Lib.hid hLj
          have HMJ := Lib.hid (HM0.out.trans hMj)
          clear hMj hLj hgj hTj
          go_wp2_with fail
          go_ret2
          exact Or.inr ⟨hkL, v', A, c, rfl, HTJ.out, HMJ.out, HLJ.out⟩
end
end Go.Proofs.Ytpcpcgbejinlmaa
