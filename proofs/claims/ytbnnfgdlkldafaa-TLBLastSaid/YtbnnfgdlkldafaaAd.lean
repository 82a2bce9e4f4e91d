/- The lines that hold one of some pages, ranged over from the last one. -/
import Derived.Test.YtbnnfgdlkldafaaAc
namespace Go.Proofs.Ytbnnfgdlkldafaa
open Go.RowKit Go.Shelf
attribute [local go_sem] Oper.semAt_some
def hldX (L : List Cd) (sp q n : Int) : List (Nat × Cd) := (bkUp L L.length).filter fun x => metB x.2 sp q n
def bnd (L : List Cd) (pre : List (Nat × Cd)) : Nat := match pre.getLast? with
  | some x => x.1
  | none => L.length
theorem bnd_nil (L : List Cd) : bnd L [] = L.length := rfl
theorem bnd_snoc (L : List Cd) (pre : List (Nat × Cd)) (x : Nat × Cd) : bnd L (pre ++ [x]) = x.1 := by simp [bnd]
theorem bnd_part (L : List Cd) (f : Nat × Cd → Bool) (k : Nat) : L.length ≤ bnd L ((bkUp L k).filter f) + k := by
  unfold bnd
  cases e : ((bkUp L k).filter f).getLast? with
  | none => show L.length ≤ L.length + k; omega
  | some x =>
    have hm := List.mem_of_getLast? e
    have hm := (List.mem_filter.1 hm).1
    unfold bkUp at hm
    obtain ⟨i, hi, rfl⟩ := List.mem_map.1 hm
    have := List.mem_range.1 hi
    show L.length ≤ L.length - 1 - i + k
    omega
/-- What the way through the lines wants of the world when some have come. -/
structure HoC (b ta : Nat) (sp q n : Int) (A : Option Addr) (c : Nat) (L : List Cd) (pre : List (Nat × Cd)) (W : World) : Prop where
  b0 : W.cell? ⟨b, 0, none⟩ = some (.pointer (some ⟨ta, 0, none⟩))
  b1 : W.cell? ⟨b + 1, 0, none⟩ = some (.int .i64 sp)
  b2 : W.cell? ⟨b + 2, 0, none⟩ = some (.int .i64 q)
  b3 : W.cell? ⟨b + 3, 0, none⟩ = some (.int .i64 n)
  lines : pre = [] → W.cell? ⟨ta, 1, none⟩ = some (.slice A L.length c)
  at_ : ∀ j (hj : j < L.length), j < bnd L pre → ∃ g, A = some ⟨g, 0, none⟩ ∧ CdAt W ⟨g, j * 5, none⟩ L[j]
theorem cell_own {X Y : World} {row : Option Nat} {a : Addr} {v : Value} (h : X.cell? a = some v) (hg : X.grownBy Y row) (hr : ∀ r, row = some r → ∃ o : Obj, X.heap[r]? = some o ∧ o.isCells = false) : Y.cell? a = some v := by
  rw [← h]
  have hl : a.block < X.heap.size := by
    rcases Nat.lt_or_ge a.block X.heap.size with h' | h'
    · exact h'
    · simp [World.cell?, Array.getElem?_eq_none h'] at h
  refine World.cell?_of_block (hg.block _ hl ?_)
  intro e
  obtain ⟨o, ho, hc⟩ := hr _ e.symm
  unfold World.cell? at h
  rw [ho] at h
  cases o <;> simp_all [Obj.isCells]
theorem CdAt.own {X Y : World} {row : Option Nat} {a : Addr} {c : Cd} (h : CdAt X a c) (hg : X.grownBy Y row) (hr : ∀ r, row = some r → ∃ o : Obj, X.heap[r]? = some o ∧ o.isCells = false) : CdAt Y a c :=
  ⟨cell_own h.c0 hg hr, cell_own h.c1 hg hr, cell_own h.c2 hg hr, cell_own h.c3 hg hr, cell_own h.c4 hg hr⟩
theorem own_grown {X Y : World} (h : Below X.heap.size X Y) : X.grownBy Y none := ⟨h.os, h.tape, h.output, h.size, fun k hk _ => h.block k hk⟩
theorem OwnFrom.call {β : Type} {B : Nat} {J : β → World → Prop} (h : OwnFrom B J) {s : β} {X Y : World} (hs : J s X) (hb : Below X.heap.size X Y) : J s Y := h s X Y none hs (own_grown hb) (fun r e => by cases e)
theorem bkUp_next {L : List Cd} {k : Nat} {x : Nat × Cd} {rest : List (Nat × Cd)} (h : bkUp L L.length = bkUp L k ++ x :: rest) : k < L.length ∧ x = bkAt L k := by
  have hl := congrArg List.length h
  rw [bkUp_length, List.length_append, bkUp_length, List.length_cons] at hl
  have hk : k < L.length := by omega
  refine ⟨hk, ?_⟩
  obtain ⟨r, hr⟩ := bkUp_split L hk
  rw [hr] at h
  have := List.append_cancel_left h
  injection this with h1 _
  exact h1.symm
theorem bkAt_eq {L : List Cd} {k : Nat} (h : k < L.length) : bkAt L k = (L.length - 1 - k, L[L.length - 1 - k]'(by omega)) := by
  unfold bkAt
  rw [List.getD_eq_getElem?_getD, List.getElem?_eq_getElem (by omega)]; rfl
theorem hld_split {L : List Cd} {k : Nat} {x : Nat × Cd} {rest : List (Nat × Cd)} {sp q n : Int} (h : bkUp L L.length = bkUp L k ++ x :: rest) (hm : metB x.2 sp q n = true) :
    hldX L sp q n = (bkUp L k).filter (fun x => metB x.2 sp q n) ++ x :: rest.filter (fun x => metB x.2 sp q n) := by
  unfold hldX
  rw [h, List.filter_append, List.filter_cons, if_pos hm]
set_option maxRecDepth 100000 in
set_option maxHeartbeats 4000000 in
theorem holding1_seq (nn b ta : Nat) {sp q n : Int} (A : Option Addr) (c : Nat) {L : List Cd} (hok : ∀ x ∈ L, ROk x) (hq : Fits q) (hn : Fits n) (hlen : L.length ≤ 100000) :
    SeqO nn Try.prog 32 #[.pointer (some ⟨b, 0, none⟩), .pointer (some ⟨b + 1, 0, none⟩), .pointer (some ⟨b + 2, 0, none⟩), .pointer (some ⟨b + 3, 0, none⟩)] encB (HoC b ta sp q n A c L) (hldX L sp q n) := fun l0 J Jx W hJ hJx hC hY h0 => by
  refine callsIn_wide.2 ((callsIn_wide (n := 9)).1 ?_)
  refine callsIn_of_wp_marks Try.func32 rfl trivial ?_ rfl
  simp only [Try.ntmps32, List.size_toArray, List.length_cons, List.length_nil, Nat.reduceAdd, Nat.reduceSub, Array.replicate_succ, Array.replicate_zero, List.push_toArray, List.append_toArray, List.nil_append, List.cons_append]
  obtain ⟨z0, z1, z2, z3, zl, za⟩ := hC _ _ h0
  have zl := zl rfl
  obtain ⟨s5, hs5⟩ : ∃ s5, s5 = W.heap.size := ⟨_, rfl⟩
  obtain ⟨W0, hW0⟩ : ∃ W0, W0 = W.alloc (.cells #[.func (.yield l0) #[] #[]] 67) := ⟨_, rfl⟩
  have b0 : Below W.heap.size W W0 := hW0 ▸ below_new W _
  have r5 : Lrow W0 s5 67 [.func (.yield l0) #[] #[]] := by rw [hW0, hs5]; exact Lrow.new W _ _
  obtain ⟨W2, hW2⟩ : ∃ W2, W2 = W0.alloc (.cells #[.slice A L.length c] 35) := ⟨_, rfl⟩
  have b2 : Below W0.heap.size W0 W2 := hW2 ▸ below_new W0 _
  have hs0 : W0.heap.size = s5 + 1 := by rw [hW0, hs5]; simp
  have rB : Lrow W2 (s5 + 1) 35 [.slice A L.length c] := by rw [hW2, ← hs0]; exact Lrow.new W0 _ _
  have r52 := r5.call b2
  have hs2 : W2.heap.size = s5 + 2 := by rw [hW2, World.size_alloc, hs0]
  have bW : Below W.heap.size W W2 := b0.trans (b2.mono b0.size)
  have hj2 : J [] W2 := hJ _ _ _ none h0 (own_grown bW) (fun r e => by cases e)
  have HJ2 := Lib.hid hj2
  have HS2 := Lib.hid hs2
  have HS5 := Lib.hid hs5
  have HBW := Lib.hid bW
  have HRB := Lib.hid rB
  have HR5 := Lib.hid r52
  have HW2 := Lib.hid hW2
  have HW0 := Lib.hid hW0
  have k0 : W0.cell? ⟨b, 0, none⟩ = some (.pointer (some ⟨ta, 0, none⟩)) := cell_own z0 (own_grown b0) (fun r e => by cases e)
  have kl : W0.cell? ⟨ta, 1, none⟩ = some (.slice A L.length c) := cell_own zl (own_grown b0) (fun r e => by cases e)
  have hba : ∀ w, CallsIn Fence.wide 8 Try.prog 33 #[.slice A L.length c] w fun e w' => e = .returned (.func (.func 36) #[] #[.pointer (some ⟨w.heap.size, 0, none⟩)]) ∧ w' = w.alloc (.cells #[.slice A L.length c] 35) := fun w => backward_in Fence.wide 8 trivial rfl A L.length c w
  clear z0 z1 z2 z3 zl za h0 b0 r5 b2 rB r52 hs2 bW hj2 hs5 hW0 hW2
  rw [HW0.out] at k0 kl
  gi_wp2_with (refine ⟨trivial, ?_⟩; gi_at_call 33; refine (hba _).mono ?_; rintro e w' ⟨rfl, rfl⟩)
  rw [← HW0.out, ← HW2.out, ← HS5.out]
  clear k0 kl hba hs0
  refine wpIn_range9 (P := Try.prog) (by omega) (gf := 36) (lb := #[.pointer (some ⟨s5 + 1, 0, none⟩)]) rfl (enters_of Try.func36 (by kernel_rfl) rfl)
    (back9 _ (s5 + 1) A c L hlen) (fun _ => rfl)
    (fun pre2 V => (∃ k, k ≤ L.length ∧ pre2 = bkUp L k) ∧ J (pre2.filter fun x => metB x.2 sp q n) V ∧ V.cell? ⟨s5, 0, none⟩ = some (.func (.yield l0) #[] #[]) ∧ V.cell? ⟨s5 + 1, 0, none⟩ = some (.slice A L.length c))
    (fun cd pre2 V => cd = .ret ∧ ∃ pre, Jx pre V)
    ?hI ?hIx ?hC ?h0 (fun x a' V => ∃ bc, CdAt V ⟨bc, 0, none⟩ x.2 ∧ a' = { tmps := #[.func (.yield l0) #[] #[], .pointer (some ⟨b, 0, none⟩), .pointer (some ⟨b + 1, 0, none⟩), .pointer (some ⟨b + 2, 0, none⟩), .pointer (some ⟨b + 3, 0, none⟩), .pointer (some ⟨s5, 0, none⟩), .int .i64 x.1, .pointer (some ⟨bc, 0, none⟩), .pointer (some ⟨ta, 0, none⟩), .bool false, .pointer (some ⟨ta, 0, none⟩), .pointer (some ⟨ta, 0, none⟩), .pointer (some ⟨ta, 1, none⟩), .slice A L.length c, .func (.func 36) #[] #[.pointer (some ⟨s5 + 1, 0, none⟩)], .int .i64 x.1, cv x.2, undef, undef, undef, undef, undef, undef, undef, undef, undef, undef, undef, undef, undef, undef, undef, undef, undef], defers := [] }) ?hAx ?assign ?body ?done ?stop
  case hI =>
    rintro pre2 X Y row ⟨hk, hj, c5, cB⟩ hg hr
    exact ⟨hk, hJ _ X Y row hj hg (fun r e => ⟨by have := (hr r e).1; have := HS2.out; have := HS5.out; omega, (hr r e).2⟩), cell_own c5 hg (fun r e => (hr r e).2), cell_own cB hg (fun r e => (hr r e).2)⟩
  case hIx =>
    rintro cd pre2 X Y row ⟨rfl, pre, hj⟩ hg hr
    exact ⟨rfl, pre, hJx _ X Y row hj hg (fun r e => ⟨by have := (hr r e).1; have := HS2.out; have := HS5.out; omega, (hr r e).2⟩)⟩
  case hC =>
    rintro pre2 V ⟨⟨k, hk, rfl⟩, hj, c5, cB⟩
    refine ⟨cB, fun j hj' => ?_⟩
    rw [bkUp_length] at hj'
    have := bnd_part L (fun x => metB x.2 sp q n) k
    exact (hC _ _ hj).at_ j (by omega) (by omega)
  case h0 => exact ⟨⟨0, Nat.zero_le _, rfl⟩, HJ2.out, HR5.out.cell 0, HRB.out.cell 0⟩
  case hAx =>
    rintro x a' - X Y row ⟨bc, hc, rfl⟩ hg hr
    exact ⟨bc, hc.own hg (fun r e => (hr r e).2), rfl⟩
  case assign =>
    rintro l pre2 x V K ⟨hk, hj, c5, cB⟩ hK
    gi_wp2
    obtain ⟨k, rfl⟩ : ∃ k, V.heap.size = k := ⟨_, rfl⟩
    have hb := below_new V (.cells (ccell x.2).toArray 31)
    have hr : Lrow (V.alloc (.cells (ccell x.2).toArray 31)) V.heap.size 31 (ccell x.2) := Lrow.new V _ _
    refine hK _ _ (Hi.of_below hb) ⟨hk, hJ _ _ _ none hj (own_grown hb) (fun r e => by cases e), cell_own c5 (own_grown hb) (fun r e => by cases e), cell_own cB (own_grown hb) (fun r e => by cases e)⟩ ⟨V.heap.size, ⟨hr.cell 0, hr.cell 1, hr.cell 2, hr.cell 3, hr.cell 4⟩, rfl⟩
  case body =>
    rintro l pre2 x rest a' V hX ⟨⟨k, hk, rfl⟩, hj, c5, cB⟩ ⟨bc, hat, rfl⟩
    obtain ⟨hkl, rfl⟩ := bkUp_next hX
    rw [bkAt_eq hkl] at hat hX ⊢
    obtain ⟨j, ej⟩ : ∃ j, j = L.length - 1 - k := ⟨_, rfl⟩
    have hjl : j < L.length := by omega
    obtain ⟨x, ex⟩ : ∃ x, x = L[L.length - 1 - k]'(by omega) := ⟨_, rfl⟩
    have hxo : ROk x := ex ▸ hok _ (List.getElem_mem _)
    rw [← ex, ← ej] at hat hX ⊢
    have hup : bkUp L (k + 1) = bkUp L k ++ [(j, x)] := by rw [bkUp_succ, bkAt_eq hkl, ← ex, ← ej]
    obtain ⟨e0, e1, e2, e3, -, -⟩ := hC _ _ hj
    have hl5 : s5 < V.heap.size := by
      rcases Nat.lt_or_ge s5 V.heap.size with h | h
      · exact h
      · simp [World.cell?, Array.getElem?_eq_none h] at c5
    have hlB : s5 + 1 < V.heap.size := by
      rcases Nat.lt_or_ge (s5 + 1) V.heap.size with h | h
      · exact h
      · simp [World.cell?, Array.getElem?_eq_none h] at cB
    have FIN : Hid (∀ V2, Hi s5 V V2 → J ((bkUp L k ++ [(j, x)]).filter fun x => metB x.2 sp q n) V2 → Hi W2.heap.size V V2 ∧ (∃ k', k' ≤ L.length ∧ bkUp L k ++ [(j, x)] = bkUp L k') ∧ J ((bkUp L k ++ [(j, x)]).filter fun x => metB x.2 sp q n) V2 ∧ V2.cell? ⟨s5, 0, none⟩ = some (.func (.yield l0) #[] #[]) ∧ V2.cell? ⟨s5 + 1, 0, none⟩ = some (.slice A L.length c)) := fun V2 hh hj2 =>
      ⟨hh.mono (by have := HS2.out; omega), ⟨k + 1, hkl, hup.symm⟩, hj2, (World.cell?_of_block (hh.keep _ (Nat.le_refl _) hl5)).trans c5, (World.cell?_of_block (a := ⟨s5 + 1, 0, none⟩) (hh.keep (s5 + 1) (Nat.le_succ _) hlB)).trans cB⟩
    have hff : metB x sp q n = false → (bkUp L k ++ [(j, x)]).filter (fun x => metB x.2 sp q n) = (bkUp L k).filter fun x => metB x.2 sp q n := fun h => by rw [List.filter_append]; simp [h]
    have hft : metB x sp q n = true → (bkUp L k ++ [(j, x)]).filter (fun x => metB x.2 sp q n) = ((bkUp L k).filter fun x => metB x.2 sp q n) ++ [(j, x)] := fun h => by rw [List.filter_append]; simp [h]
    have HJB : Hid (∀ V1, Below V.heap.size V V1 → J ((bkUp L k).filter fun x => metB x.2 sp q n) V1) := fun V1 hb => hJ _ _ _ none hj (own_grown hb) (fun r e => by cases e)
    obtain ⟨d0, d1, d2, d3, d4⟩ := hat
    have d0 : V.cell? ⟨bc, 0, none⟩ = some (.int .i64 x.s) := d0
    have d1 : V.cell? ⟨bc, 1, none⟩ = some (.int .i64 x.p) := by simpa using d1
    have d2 : V.cell? ⟨bc, 2, none⟩ = some (.int .i64 x.o) := by simpa using d2
    have d3 : V.cell? ⟨bc, 3, none⟩ = some (.int .i64 x.f) := by simpa using d3
    have d4 : V.cell? ⟨bc, 4, none⟩ = some (.bool x.w) := by simpa using d4
    have HLB := Lib.hid hlB
    have HHX := Lib.hid hX
    clear ex ej hj cB hlB hl5 hup hkl hjl hX
    by_cases hs : x.s = sp
    · have hsb : (x.s == sp) = true := by simpa using hs
      subst hs
      have hho := fun V => holds_any hxo hq hn V
      cases hm : metB x x.s q n
      · rw [hm] at hho
        have HFF := Lib.hid (hff hm)
        have HMM := Lib.hid hm
        clear hff hft hm hY
        obtain ⟨s, p, o, f, bb⟩ := x
        dsimp only at d0 d1 d2 d3 d4 hsb e1 hho
        gi_wp2_with (refine ⟨trivial, ?_⟩; gi_at_call 34; refine (CallsIn.inRound l (callsIn_wide.2 (hho _))).mono ?_; rintro e V1 ⟨rfl, hb1⟩)
        refine ⟨fun _ h => (by cases h), ?_⟩
        gi_wp2
        refine FIN.out V1 (Hi.of_below hb1) ?_
        rw [HFF.out]
        exact HJB.out V1 hb1
      · rw [hm] at hho
        have HFT := Lib.hid (hft hm)
        have HYY : Hid (∀ V1, Below V.heap.size V V1 → YieldAt Fence.wide 6 Try.prog l0 (encB (j, x)) V1 fun e W' => Hi W.heap.size V1 W' ∧ ((e = .returned (.bool true) ∧ J (((bkUp L k).filter fun y => metB y.2 x.s q n) ++ [(j, x)]) W') ∨ (e = .returned (.bool false) ∧ Jx (((bkUp L k).filter fun y => metB y.2 x.s q n) ++ [(j, x)]) W'))) := fun V1 hb =>
          yieldAny 6 (hY _ (j, x) _ V1 (hld_split HHX.out hm) (HJB.out V1 hb))
        have HMM := Lib.hid hm
        clear hff hft hm hY
        obtain ⟨s, p, o, f, bb⟩ := x
        dsimp only at d0 d1 d2 d3 d4 hsb e1 hho
        gi_wp2_with (refine ⟨trivial, ?_⟩; gi_at_call 34; refine (CallsIn.inRound l (callsIn_wide.2 (hho _))).mono ?_; rintro e V1 ⟨rfl, hb1⟩; have f5 := cell_own c5 (own_grown hb1) (fun r e => by cases e); have f0 := cell_own d0 (own_grown hb1) (fun r e => by cases e); have f1 := cell_own d1 (own_grown hb1) (fun r e => by cases e); have f2 := cell_own d2 (own_grown hb1) (fun r e => by cases e); have f3 := cell_own d3 (own_grown hb1) (fun r e => by cases e); have f4 := cell_own d4 (own_grown hb1) (fun r e => by cases e); obtain ⟨fn, tmps, assign, body, hy, hR⟩ := HYY.out V1 hb1; dsimp only [encB, cv] at hy)
        have hR2 : RoundIn (Fence.wide.inRound l) 6 Try.prog l0 fn tmps assign body V1 _ := hR
        refine hR2.mono ?_
        rintro e V2 ⟨hh, (⟨rfl, hj2⟩ | ⟨rfl, hj2⟩)⟩
        · have hh5 : Hi s5 V V2 := by rw [HS5.out]; exact (Hi.of_below hb1).trans hh
          gi_wp2
          refine FIN.out V2 hh5 ?_
          rw [HFT.out]
          exact hj2
        · have hh5 : Hi W2.heap.size V V2 := ((Hi.of_below hb1).trans hh).mono (by have := HS2.out; have := HS5.out; omega)
          gi_wp2
          exact ⟨hh5, rfl, _, hj2⟩
    · have hsb : (x.s == sp) = false := by simpa using hs
      have hmf : metB x sp q n = false := by unfold metB; rw [decide_eq_false_iff_not]; exact fun h => hs h.2.1
      have HFF := Lib.hid (hff hmf)
      clear hff hft hY hmf
      obtain ⟨s, p, o, f, bb⟩ := x
      dsimp only at d0 d1 d2 d3 d4 hsb
      gi_wp2
      refine ⟨trivial, ?_⟩
      gi_wp2
      refine ⟨fun _ h => (by cases h), ?_⟩
      gi_wp2
      refine FIN.out V (Hi.refl _ _) ?_
      rw [HFF.out]
      exact HJB.out V (Below.refl _ _)
  case done =>
    rintro D V hD ⟨-, hj, -, -⟩ hK
    gi_wp2
    refine ⟨by simp, .inl ⟨_, _, rfl, run_takeDeferred hK, ?_⟩⟩
    refine ⟨_, results_none rfl _ _ _, ⟨_, rfl⟩, Or.inl ?_⟩
    exact hJ.putObj _ hj (by have := HS2.out; have := HS5.out; omega) hK rfl
  case stop =>
    rintro D cd pre2 V hD ⟨rfl, pre, hj⟩ hK
    gi_wp2
    refine ⟨by simp, .inl ⟨_, _, rfl, run_takeDeferred hK, ?_⟩⟩
    refine ⟨_, results_none rfl _ _ _, ⟨_, rfl⟩, Or.inr ⟨pre, ?_⟩⟩
    exact hJx.putObj _ hj (by have := HS2.out; have := HS5.out; omega) hK rfl
/-- The four boxes that the way through the lines is made with. -/
structure HoB (b ta : Nat) (sp q n : Int) (W : World) : Prop where
  b0 : Lrow W b 25 [.pointer (some ⟨ta, 0, none⟩)]
  b1 : Lrow W (b + 1) 3 [.int .i64 sp]
  b2 : Lrow W (b + 2) 3 [.int .i64 q]
  b3 : Lrow W (b + 3) 3 [.int .i64 n]
def hoF (b : Nat) : Value := .func (.func 32) #[] #[.pointer (some ⟨b, 0, none⟩), .pointer (some ⟨b + 1, 0, none⟩), .pointer (some ⟨b + 2, 0, none⟩), .pointer (some ⟨b + 3, 0, none⟩)]
theorem holding_any (ta : Nat) (sp q n : Int) (w : World) : Calls Try.prog 24 #[.pointer (some ⟨ta, 0, none⟩), .int .i64 sp, .int .i64 q, .int .i64 n] w fun e w' => e = .returned (hoF w.heap.size) ∧ HoB w.heap.size ta sp q n w' ∧ Below w.heap.size w w' ∧ w'.heap.size = w.heap.size + 4 := by
  obtain ⟨b, hb⟩ : ∃ b, b = w.heap.size := ⟨_, rfl⟩
  obtain ⟨W1, hW1⟩ : ∃ W1, W1 = w.alloc (.cells #[.pointer (some ⟨ta, 0, none⟩)] 25) := ⟨_, rfl⟩
  obtain ⟨W2, hW2⟩ : ∃ W2, W2 = W1.alloc (.cells #[.int .i64 sp] 3) := ⟨_, rfl⟩
  obtain ⟨W3, hW3⟩ : ∃ W3, W3 = W2.alloc (.cells #[.int .i64 q] 3) := ⟨_, rfl⟩
  obtain ⟨W4, hW4⟩ : ∃ W4, W4 = W3.alloc (.cells #[.int .i64 n] 3) := ⟨_, rfl⟩
  have s1 : W1.heap.size = b + 1 := by rw [hW1, hb]; simp
  have s2 : W2.heap.size = b + 2 := by rw [hW2, World.size_alloc, s1]
  have s3 : W3.heap.size = b + 3 := by rw [hW3, World.size_alloc, s2]
  have s4 : W4.heap.size = b + 4 := by rw [hW4, World.size_alloc, s3]
  have r0 : Lrow W1 b 25 [.pointer (some ⟨ta, 0, none⟩)] := by rw [hW1, hb]; exact Lrow.new w _ _
  have r1 : Lrow W2 (b + 1) 3 [.int .i64 sp] := by rw [hW2, ← s1]; exact Lrow.new W1 _ _
  have r2 : Lrow W3 (b + 2) 3 [.int .i64 q] := by rw [hW3, ← s2]; exact Lrow.new W2 _ _
  have r3 : Lrow W4 (b + 3) 3 [.int .i64 n] := by rw [hW4, ← s3]; exact Lrow.new W3 _ _
  have g1 : Below w.heap.size w W1 := hW1 ▸ below_new w _
  have g2 : Below W1.heap.size W1 W2 := hW2 ▸ below_new W1 _
  have g3 : Below W2.heap.size W2 W3 := hW3 ▸ below_new W2 _
  have g4 : Below W3.heap.size W3 W4 := hW4 ▸ below_new W3 _
  have HO : Hid (HoB b ta sp q n W4) := ⟨((r0.call g2).call g3).call g4, (r1.call g3).call g4, r2.call g4, r3⟩
  have HG : Hid (Below w.heap.size w W4) := ((g1.trans (g2.mono (by omega))).trans (g3.mono (by omega))).trans (g4.mono (by omega))
  have H4 := Lib.hid s4
  have HWA := Lib.hid (And.intro hW1 (And.intro hW2 (And.intro hW3 hW4)))
  have HB := Lib.hid hb
  clear hW1 hW2 hW3 hW4 s1 s2 s3 s4 r0 r1 r2 r3 g1 g2 g3 g4 hb
  go_enter Try.func24, Try.ntmps24
  go_wp2
  go_ret
  rw [← HWA.out.1, ← HWA.out.2.1, ← HWA.out.2.2.1, ← HWA.out.2.2.2, ← HB.out]
  exact ⟨rfl, HO.out, HB.out ▸ HG.out, H4.out⟩
end Go.Proofs.Ytbnnfgdlkldafaa
