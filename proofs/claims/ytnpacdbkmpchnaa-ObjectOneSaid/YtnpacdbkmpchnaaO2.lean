/- The reference of objects: Owner, Len, Frames; what its writing calls leave. -/
import Derived.Test.YtnpacdbkmpchnaaO1
namespace Go.Proofs.Ytnpacdbkmpchnaa
open Go.RowKit
theorem wpList_append_run {P : Program} {w : World} {ops : Array Oper} {rest : List Oper} {o : Oper} {a : Act} {Q : Exit → Act → World → Prop} (hgd : o.guard = none) (d s : Operand) (t : TypeId)
    (ho : o.op = .call { callee := .builtin .append, args := #[d, s], argTypes := #[t, t] }) (v u : Value) (hd : a.eval d = v) (hs : a.eval s = u) {v' : Value} {w' : World}
    (hr : (Builtin.append_ #[t, t] o.type #[v, u]).run P w = .ok v' w') (h : wpList P ops Q rest (a.put o.dst v') w') : wpList P ops Q (o :: rest) a w := by
  refine wpList_plain hgd fun K' hK' => ?_
  unfold Oper.wp
  simp [execOp, ho, resolve, invoke, builtin, hd, hs, hr, Result.andThen]
  exact hK' _ _ h
/-- The reference's blocks. -/
def MineX (xa : Nat) (vh vl : Value) (k : Nat) : Prop := k = xa ∨ vh.ownBlock = some k ∨ vl.ownBlock = some k
/-- What a call of the reference has done. -/
def DidR (B : Nat) (w : World) (xa : Nat) (vh vl : Value) (H : List Int) (L : List Og) (w' : World) : Prop :=
  ∃ vh' vl', Rx B w' xa vh' vl' H L ∧ Foot (MineX xa vh vl) w w' ∧ ∀ k, MineX xa vh' vl' k → MineX xa vh vl k ∨ w.heap.size ≤ k
section
variable {w w' W3 : World} {B xa : Nat} {vh vl vh' vl' : Value} {H H' : List Int} {L L' : List Og}
theorem Rx.did (h : Rx B w xa vh vl H L) (hb : Below w.heap.size w w') : DidR B w xa vh vl H L w' := ⟨vh, vl, h.call hb, Foot.of_below hb, fun _ e => Or.inl e⟩
theorem DidR.pre {W : World} (h : Below W.heap.size W w) (d : DidR B w xa vh vl H L w') : DidR B W xa vh vl H L w' := by
  obtain ⟨a, b, d1, d2, d3⟩ := d
  exact ⟨a, b, d1, (Foot.of_below (X := MineX xa vh vl) h).trans d2 (fun _ e _ => e), fun k e => (d3 k e).imp id fun e => Nat.le_trans h.size e⟩
/-- The numbers are laid anew. -/
theorem Rx.setH (h : Rx B w xa vh vl H L) (hg : w.grownBy W3 vh.ownBlock) (ho : EI.Own B W3 vh' H') (t : vh'.ownBlock = vh.ownBlock ∨ ∃ g, vh'.ownBlock = some g ∧ w.heap.size ≤ g) (hl : H'.length ≤ 1000) :
    W3.cell? ⟨xa, 0, none⟩ = some vh ∧ W3.frozen? ⟨xa, 0, none⟩ = false ∧ Rx B (W3.setCell ⟨xa, 0, none⟩ vh') xa vh' vl H' L ∧ DidR B w xa vh vl H' L (W3.setCell ⟨xa, 0, none⟩ vh') := by
  have htop : Lrow W3 xa 32 [vh, vl] := h.top.grown hg (fun e => by
    obtain ⟨vs, r, _⟩ := h.hel.block e.symm
    exact h.top.apart r (by decide) rfl)
  have hons : EOg.Own B W3 vl L := h.ons.heap (fun g e => by
    obtain ⟨vs, r, _⟩ := h.ons.block e
    exact hg.block g r.lt (fun e2 => by
      obtain ⟨us, r2, _⟩ := h.hel.block e2.symm
      exact r.apart r2 (by decide) rfl))
  have hR : Rx B (W3.setCell ⟨xa, 0, none⟩ vh') xa vh' vl H' L := by
    refine ⟨htop.set_ 0 vh', ?_, ?_, h.lo, by have := hg.size; have := h.lw; simp [World.setCell]; omega, hl, h.ll⟩
    · refine ho.heap fun g e => ?_
      obtain ⟨vs, r, _⟩ := ho.block e
      exact Below.heap_setCell W3 _ _ g (r.apart htop (by decide))
    · refine hons.heap fun g e => ?_
      obtain ⟨vs, r, _⟩ := hons.block e
      exact Below.heap_setCell W3 _ _ g (r.apart htop (by decide))
  refine ⟨htop.cell 0, htop.frozen 0, hR, vh', vl, hR, ?_, fun k e => ?_⟩
  · exact (Foot.grownO (X := MineX xa vh vl) hg fun b e _ => Or.inr (Or.inl e)).trans (Foot.grown (X := MineX xa vh vl) (grown_set W3 xa 0 _) (Or.inl rfl)) (fun _ e _ => e)
  · rcases e with e | e | e
    · exact Or.inl (Or.inl e)
    · rcases t with t | ⟨g, t, hge⟩
      · exact Or.inl (Or.inr (Or.inl (t ▸ e)))
      · rw [t] at e; injection e with e; exact Or.inr (by omega)
    · exact Or.inl (Or.inr (Or.inr e))
/-- The list is laid anew. -/
theorem Rx.setL (h : Rx B w xa vh vl H L) (hg : w.grownBy W3 vl.ownBlock) (ho : EOg.Own B W3 vl' L') (t : vl'.ownBlock = vl.ownBlock ∨ ∃ g, vl'.ownBlock = some g ∧ w.heap.size ≤ g) (hl : L'.length ≤ 1000) :
    W3.cell? ⟨xa, 1, none⟩ = some vl ∧ W3.frozen? ⟨xa, 1, none⟩ = false ∧ Rx B (W3.setCell ⟨xa, 1, none⟩ vl') xa vh vl' H L' ∧ DidR B w xa vh vl H L' (W3.setCell ⟨xa, 1, none⟩ vl') := by
  have htop : Lrow W3 xa 32 [vh, vl] := h.top.grown hg (fun e => by
    obtain ⟨vs, r, _⟩ := h.ons.block e.symm
    exact h.top.apart r (by decide) rfl)
  have hhel : EI.Own B W3 vh H := h.hel.heap (fun g e => by
    obtain ⟨vs, r, _⟩ := h.hel.block e
    exact hg.block g r.lt (fun e2 => by
      obtain ⟨us, r2, _⟩ := h.ons.block e2.symm
      exact r.apart r2 (by decide) rfl))
  have hR : Rx B (W3.setCell ⟨xa, 1, none⟩ vl') xa vh vl' H L' := by
    refine ⟨htop.set_ 1 vl', ?_, ?_, h.lo, by have := hg.size; have := h.lw; simp [World.setCell]; omega, h.hl, hl⟩
    · refine hhel.heap fun g e => ?_
      obtain ⟨vs, r, _⟩ := hhel.block e
      exact Below.heap_setCell W3 _ _ g (r.apart htop (by decide))
    · refine ho.heap fun g e => ?_
      obtain ⟨vs, r, _⟩ := ho.block e
      exact Below.heap_setCell W3 _ _ g (r.apart htop (by decide))
  refine ⟨htop.cell 1, htop.frozen 1, hR, vh, vl', hR, ?_, fun k e => ?_⟩
  · exact (Foot.grownO (X := MineX xa vh vl) hg fun b e _ => Or.inr (Or.inr e)).trans (Foot.grown (X := MineX xa vh vl) (grown_set W3 xa 1 _) (Or.inl rfl)) (fun _ e _ => e)
  · rcases e with e | e | e
    · exact Or.inl (Or.inl e)
    · exact Or.inl (Or.inr (Or.inl e))
    · rcases t with t | ⟨g, t, hge⟩
      · exact Or.inl (Or.inr (Or.inr (t ▸ e)))
      · rw [t] at e; injection e with e; exact Or.inr (by omega)
/-- One number is another. -/
theorem Rx.put1 (h : Rx B w xa vh vl H L) {g n c : Nat} (hv : vh = .slice (some ⟨g, 0, none⟩) n c) {j : Nat} (hj : j < H.length) (x : Int) :
    w.frozen? ⟨g, j, none⟩ = false ∧ DidR B w xa vh vl (H.set j x) L (w.setCell ⟨g, j, none⟩ (.int .i64 x)) ∧ Rx B (w.setCell ⟨g, j, none⟩ (.int .i64 x)) xa vh vl (H.set j x) L := by
  subst hv
  obtain ⟨vs, rg, hgB⟩ := h.hel.block (g := g) rfl
  obtain ⟨hf, hp⟩ := h.hel.put hj (q := 0) (by decide) (u := .int .i64 x) (x := x) rfl rfl
  rw [show j * EI.sz + 0 = j from by show j * 1 + 0 = j; omega] at hp
  have hR : Rx B (w.setCell ⟨g, j, none⟩ (.int .i64 x)) xa (.slice (some ⟨g, 0, none⟩) n c) vl (H.set j x) L := by
    refine ⟨h.top.far (h.top.apart rg (by decide)) _, hp, ?_, h.lo, by have := h.lw; simpa [World.setCell] using this, by rw [List.length_set]; exact h.hl, h.ll⟩
    refine h.ons.heap fun k e => ?_
    obtain ⟨us, r, _⟩ := h.ons.block e
    exact Below.heap_setCell w _ _ k (r.apart rg (by decide))
  exact ⟨hf j, ⟨_, _, hR, Foot.grown (X := MineX xa _ vl) (grown_set w g j _) (Or.inr (Or.inl rfl)), fun _ e => Or.inl e⟩, hR⟩
set_option maxRecDepth 100000 in
theorem owner_x (h : Rx B w xa vh vl H L) (f : Int) : Calls Try.prog 19 #[.pointer (some ⟨xa, 0, none⟩), .int .i64 f] w fun e w' => e = .returned (.tuple #[.int .i64 (owI L f), .int .i64 (owP L f), .int .i64 (owE L f)]) ∧ Below w.heap.size w w' := by
  have hof := fun w (h : Rx B w xa vh vl H L) => of_x h f
  have ho := of_x h f
  by_cases hc : fi (byF f) L < L.length
  · obtain ⟨k, hk⟩ : ∃ k, k = fi (byF f) L := ⟨_, rfl⟩
    rw [ofI_yes hc, ← hk] at ho
    have hkl : k < L.length := by rw [hk]; exact hc
    obtain ⟨A, c, hv⟩ := h.ons.form
    have c1 := h.c1
    obtain ⟨-, g, rfl, -, hat⟩ := h.on hv hkl
    obtain ⟨d0, d1, -⟩ := og_at hat
    rw [hv] at c1
    obtain ⟨x, hx⟩ : ∃ x, x = L[k] := ⟨_, rfl⟩
    rw [← hx] at d0 d1
    have HE : Hid (owI L f = x.i ∧ owP L f = x.p ∧ owE L f = 0) := by
      refine ⟨?_, ?_, if_pos hc⟩
      · unfold owI; rw [dif_pos hc]; simp only [← hk, hx]
      · unfold owP; rw [dif_pos hc]; simp only [← hk, hx]
    have k1 : (k : Int) < (L.length : Int) := by omega
    have k0 : (0 : Int) ≤ k := by omega
    have n9 := h.ll
    generalize x.i = xi at d0 HE
    generalize x.p = xp at d1 HE
    generalize L.length = n at c1 k1 n9
    clear h hof hc hk hkl hv hat hx
    go_enter Try.func19, Try.ntmps19
    go_wp2_with (go_at_call 31; (with_reducible refine ho.mono ?_); rintro e w1 ⟨rfl, rfl⟩)
    go_quiet (fail)
    go_wp2
    go_ret3
    exact ⟨by rw [HE.out.1, HE.out.2.1, HE.out.2.2]; rfl, below_dN (Below.refl _ _) _⟩
  · rw [ofI_no hc] at ho
    have HE : Hid (owI L f = 0 ∧ owP L f = 0 ∧ owE L f = 6) := ⟨dif_neg hc, dif_neg hc, if_neg hc⟩
    clear h hof hc
    go_enter Try.func19, Try.ntmps19
    go_wp2_with (go_at_call 31; (with_reducible refine ho.mono ?_); rintro e w1 ⟨rfl, rfl⟩)
    go_ret3
    exact ⟨by rw [HE.out.1, HE.out.2.1, HE.out.2.2]; rfl, Below.refl _ _⟩
theorem lenI_take {j : Nat} (hj : j < H.length) : lenI (H.take (j + 1)) = lenI (H.take j) + if 0 < H.getD j 0 then 1 else 0 := by
  rw [List.take_succ_eq_append_getElem hj, lenI_append, List.getD_eq_getElem?_getD, List.getElem?_eq_getElem hj]
  show _ + ((if 0 < H[j] then 1 else 0) + 0) = _
  rw [Int.add_zero]; rfl
set_option maxRecDepth 100000 in
theorem len_x (h : Rx B w xa vh vl H L) : Calls Try.prog 23 #[.pointer (some ⟨xa, 0, none⟩)] w fun e w' => e = .returned (.int .i64 (lenI H)) ∧ w = w' := by
  obtain ⟨A, c, hv⟩ := h.hel.form
  obtain ⟨n, hn⟩ : ∃ n, n = H.length := ⟨_, rfl⟩
  have c0 := h.c0
  rw [hv, ← hn] at c0
  have n9 : (n : Int) ≤ 1000 := by have := h.hl; omega
  have HX := Lib.hid (And.intro h hv)
  have HN := Lib.hid hn
  clear h hv hn
  go_enter Try.func23, Try.ntmps23
  go_wp2
  go_loopw [3, 4] (fun s i wr => ∃ j : Nat, j ≤ n ∧ s = .int .i64 (lenI (H.take j)) ∧ i = .int .i64 j ∧ w = wr) (fun _ i _ => n - (RowKit.intOf i).toNat)
  case atStart => exact ⟨0, Nat.zero_le _, rfl, rfl, rfl⟩
  case round =>
    obtain ⟨j, hj, rfl, rfl, rfl⟩ := hrel
    by_cases hlt : j < n
    · have hjl : j < H.length := by rw [← HN.out]; exact hlt
      obtain ⟨-, g, rfl, -, d0⟩ := HX.out.1.held HX.out.2 hjl
      have HT := Lib.hid (lenI_take hjl)
      have hb := lenI_le (H.take j)
      have hbl : (H.take j).length ≤ j := by rw [List.length_take]; omega
      obtain ⟨s, hs⟩ : ∃ s, s = lenI (H.take j) := ⟨_, rfl⟩
      rw [← hs] at HT hb ⊢
      obtain ⟨x, hx⟩ : ∃ x, x = H.getD j 0 := ⟨_, rfl⟩
      rw [← hx] at d0 HT
      have j0 : (0 : Int) ≤ j := by omega
      have j1 : (j : Int) < n := by omega
      have s1 : IntKind.i64.wrap (s + 1) = s + 1 := IntWalk.i64_in _ (by omega)
      clear hs hx hb hbl
      by_cases hp : 0 < x
      · have HT2 := HT.out
        rw [if_pos hp] at HT2
        have HT3 := Lib.hid HT2
        clear HT2
        go_wp2
        go_round
        case rel => exact ⟨j + 1, by omega, by rw [HT3.out], by go_num, trivial⟩
        case measure => simp [RowKit.intOf]; omega
      · have HT2 := HT.out
        rw [if_neg hp, Int.add_zero] at HT2
        have HT3 := Lib.hid HT2
        clear HT2
        go_wp2
        go_round
        case rel => exact ⟨j + 1, by omega, by rw [HT3.out], by go_num, trivial⟩
        case measure => simp [RowKit.intOf]; omega
    · obtain rfl : j = n := by omega
      have HE : Hid (lenI (H.take j) = lenI H) := by show _ = _; rw [List.take_of_length_le (by rw [← HN.out]; exact Nat.le_refl _)]
      go_wp2
      go_ret
      exact ⟨ret_int HE.out, rfl⟩
/-- Numbers that are told. -/
def ToldI (R : List Int) (w : World) (e : Ending) (w' : World) : Prop := ∃ A c, e = .returned (.slice A R.length c) ∧ EI.Own w.heap.size w' (.slice A R.length c) R ∧ Below w.heap.size w w'
set_option maxRecDepth 100000 in
set_option maxHeartbeats 1000000 in
theorem frames_x (h : Rx B w xa vh vl H L) (i : Int) : Calls Try.prog 22 #[.pointer (some ⟨xa, 0, none⟩), .int .i64 i] w (ToldI (frs L i) w) := by
  obtain ⟨A, c, hv⟩ := h.ons.form
  have HX := Lib.hid (And.intro h hv)
  clear h hv
  go_enter Try.func22, Try.ntmps22
  go_wp2
  go_loopw [5, 6] (fun r k wr => ∃ j : Nat, j ≤ 1024 ∧ k = .int .i64 j ∧ EI.Own w.heap.size wr r (frsN L i j) ∧ Below w.heap.size w wr) (fun _ k _ => 1024 - (RowKit.intOf k).toNat)
  case atStart => exact ⟨0, Nat.zero_le _, rfl, ⟨rfl, Or.inl ⟨rfl, rfl⟩⟩, Below.refl _ _⟩
  case round =>
    obtain ⟨j, hj, rfl, hown, hb⟩ := hrel
    obtain ⟨Ar_, cr, rfl⟩ := hown.form
    have hx := HX.out.1.call hb
    have HS := Lib.hid (frsN_succ L i j)
    have hlen := frsN_len L i j
    obtain ⟨R, hR⟩ : ∃ R, R = frsN L i j := ⟨_, rfl⟩
    rw [← hR] at hown HS hlen ⊢
    obtain ⟨m, hm⟩ : ∃ m, m = R.length := ⟨_, rfl⟩
    have HM := Lib.hid hm
    have HO := Lib.hid hown
    have HB := Lib.hid hb
    rw [← hm]
    by_cases hlt : j < 1024
    · have ho := of_x hx (j : Int)
      have j1 : (j : Int) < 1024 := by omega
      by_cases hc : fi (byF j) L < L.length
      · obtain ⟨k, hk⟩ : ∃ k, k = fi (byF (j : Int)) L := ⟨_, rfl⟩
        rw [ofI_yes hc, ← hk] at ho
        have hkl : k < L.length := by rw [hk]; exact hc
        have c1 := hx.c1
        obtain ⟨-, g, rfl, -, hat⟩ := hx.on HX.out.2 hkl
        obtain ⟨d0, -, -⟩ := og_at hat
        rw [HX.out.2] at c1
        obtain ⟨x, hxx⟩ : ∃ x, x = L[k].i := ⟨_, rfl⟩
        rw [← hxx] at d0
        have HH : Hid (hasF L i j = decide (x = i)) := by show _ = _; unfold hasF; rw [dif_pos hc]; simp only [← hk, hxx]
        have k1 : (k : Int) < (L.length : Int) := by omega
        have k0 : (0 : Int) ≤ k := by omega
        generalize L.length = n at c1 k1
        clear hc hk hkl hat hxx hx hown hb hR hm
        by_cases he : x = i
        · subst he
          have HF2 : Hid (frsN L x (j + 1) = R ++ [(j : Int)]) := by show _ = _; rw [HS.out, if_pos (by rw [HH.out]; exact decide_eq_true rfl)]
          obtain ⟨A5, c5, W5, r5, o5, g5, -⟩ := HO.out.app1 HB.out.size (j : Int) (by omega) #[.int .i64 j] rfl
          have r5' := r5 _ rfl
          rw [← HM.out] at r5' o5
          change (Builtin.append_ #[29, 29] 29 _).run Try.prog (wr.alloc (.cells #[.int .i64 j] 3)) = _ at r5'
          have HO5 := Lib.hid o5
          have HB5 : Hid (Below w.heap.size w W5) := Below.grown HB.out g5 HB.out.size (fun k e => by
            obtain ⟨vs, r, hlo⟩ := HO.out.block e
            exact hlo)
          clear o5 g5 r5
          go_wp2_with (first | (go_at_call 31; (with_reducible refine ho.mono ?_); rintro e w1 ⟨rfl, rfl⟩) | (at_builtin; refine wpList_append_run rfl _ _ 29 rfl _ _ rfl rfl r5' ?_))
          go_roundw
          case rel => exact ⟨j + 1, by omega, by go_num, by rw [HF2.out]; exact HO5.out, HB5.out⟩
          case measure => simp [RowKit.intOf]; omega
        · have hne : (x == i) = false := by simpa using he
          have HF2 : Hid (frsN L i (j + 1) = R) := by show _ = _; rw [HS.out, if_neg (by rw [HH.out]; simpa using he)]
          go_wp2_with (go_at_call 31; (with_reducible refine ho.mono ?_); rintro e w1 ⟨rfl, rfl⟩)
          go_roundw
          case rel => exact ⟨j + 1, by omega, by go_num, by rw [HF2.out, HM.out]; exact HO.out, HB.out⟩
          case measure => simp [RowKit.intOf]; omega
      · rw [ofI_no hc] at ho
        have HF2 : Hid (frsN L i (j + 1) = R) := by show _ = _; rw [HS.out, if_neg (by unfold hasF; rw [dif_neg hc]; decide)]
        clear hc hx hown hb hR hm
        go_wp2_with (go_at_call 31; (with_reducible refine ho.mono ?_); rintro e w1 ⟨rfl, rfl⟩)
        go_roundw
        case rel => exact ⟨j + 1, by omega, by go_num, by rw [HF2.out, HM.out]; exact HO.out, HB.out⟩
        case measure => simp [RowKit.intOf]; omega
    · obtain rfl : j = 1024 := by omega
      have HE : Hid (R = frs L i) := hR
      clear hx hown hb hR hm
      go_wp2
      go_ret
      exact ⟨Ar_, cr, by rw [← HE.out, ← HM.out]; rfl, by rw [← HE.out, ← HM.out]; rw [HM.out]; exact HO.out, HB.out⟩
end
end Go.Proofs.Ytnpacdbkmpchnaa
