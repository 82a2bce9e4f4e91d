/- The reference by kinds: its memory; Of, FreeOf, Set, New. -/
import Derived.Test.YtfjphlickpgbnaaKl
import Derived.Test.YtfjphlickpgbnaaKn
namespace Go.Proofs.Ytfjphlickpgbnaa
variable {Xc : Nat → Prop}
open Go.RowKit

/-- The struct in block z over the frames of block x, the sections' kinds in block h, at the row's front. -/
structure RefK (w : World) (z x y h n : Nat) (F : List Bool) (S : List Nat) : Prop where
  ref : RefAt w x y n F
  top : ∃ c, S.length ≤ c ∧ Lrow w z 42 [.pointer (some ⟨x, 0, none⟩), .slice (some ⟨h, 0, none⟩) S.length c]
  row : ∃ r, Lrow w h 3 (kcl S ++ r)
  cnt : S.length = (n + 7) / 8
section
variable {w w' : World} {z x y h n B : Nat} {F G : List Bool} {S S' : List Nat}
theorem RefK.c0 (hR : RefK w z x y h n F S) : w.cell? ⟨z, 0, none⟩ = some (.pointer (some ⟨x, 0, none⟩)) := by
  obtain ⟨c, _, r⟩ := hR.top
  rw [r.cell]; rfl
theorem RefK.c1 (hR : RefK w z x y h n F S) : ∃ c, S.length ≤ c ∧ w.cell? ⟨z, 1, none⟩ = some (.slice (some ⟨h, 0, none⟩) S.length c) := by
  obtain ⟨c, hc, r⟩ := hR.top
  exact ⟨c, hc, by rw [r.cell]; rfl⟩
theorem RefK.at_ (hR : RefK w z x y h n F S) {i : Nat} (hi : i < S.length) : w.cell? ⟨h, i, none⟩ = some (.int .i64 (S.getD i 0 : Nat)) := by
  obtain ⟨r, hr⟩ := hR.row
  rw [hr.cell, List.getElem?_append_left (by rw [kcl_length]; exact hi), kcl_get, getD_of S 0 i hi]; rfl
theorem RefK.fz (hR : RefK w z x y h n F S) (i : Nat) : w.frozen? ⟨h, i, none⟩ = false := by
  obtain ⟨r, hr⟩ := hR.row
  exact hr.frozen i
theorem RefK.lt (hR : RefK w z x y h n F S) : z < w.heap.size ∧ h < w.heap.size := by
  obtain ⟨r, hr⟩ := hR.row
  obtain ⟨c, _, ht⟩ := hR.top
  exact ⟨ht.lt, hr.lt⟩
theorem RefK.keep (hR : RefK w z x y h n F S) (hr : RefAt w' x y n F) (hk : ∀ g t vs, Lrow w g t vs → t = 42 ∨ g = h → Lrow w' g t vs) : RefK w' z x y h n F S := by
  obtain ⟨c, hc, ht⟩ := hR.top
  obtain ⟨r, hrow⟩ := hR.row
  exact ⟨hr, ⟨c, hc, hk _ _ _ ht (Or.inl rfl)⟩, ⟨r, hk _ _ _ hrow (Or.inr rfl)⟩, hR.cnt⟩
theorem RefK.call (hR : RefK w z x y h n F S) (hb : Below w.heap.size w w') : RefK w' z x y h n F S := hR.keep (hR.ref.call hb) fun _ _ _ r _ => r.call hb
theorem RefK.alloc (hR : RefK w z x y h n F S) (o : Obj) : RefK (w.alloc o) z x y h n F S := hR.call ((Below.refl _ _).alloc (Nat.le_refl _) o)
theorem RefK.drewN (hR : RefK w z x y h n F S) (q : Nat) : RefK (w.drewN q) z x y h n F S := hR.call (below_dN (Below.refl _ _) q)
theorem RefK.turn (hR : RefK w z x y h n F S) (ht : Turn Xc B w w') (hX : Xc h) : RefK w' z x y h n F S := hR.keep (hR.ref.turn ht) fun g t vs r e => by
  rcases e with rfl | rfl
  · exact ht.row _ _ _ r (by decide) (by decide)
  · exact (ht.exc _ hX r.lt).trans r
theorem RefK.grown {b : Nat} {t : TypeId} {vs : List Value} (hR : RefK w z x y h n F S) (r : Lrow w b t vs) (hg : w.grownBy w' (some b)) (h1 : t ≠ 3) (h2 : t ≠ 42) (h3 : t ≠ 4) (h4 : t ≠ 38) : RefK w' z x y h n F S := by
  refine hR.keep (hR.ref.grown hg ?_ ?_) fun g s us q e => q.grown hg ?_
  · intro e; injection e with e; subst e; exact r.apart hR.ref.top h4 rfl
  · intro e; injection e with e; subst e; exact r.apart hR.ref.row h3 rfl
  · intro e2; injection e2 with e2; subst e2
    rcases e with rfl | rfl
    · exact r.apart q h2 rfl
    · obtain ⟨r', hr'⟩ := hR.row
      exact r.apart hr' h1 rfl
/-- The frames have been turned. -/
theorem RefK.refGrown (hR : RefK w z x y h n F S) (hg : w.grownBy w' (some y)) (hr : RefAt w' x y n G) : RefK w' z x y h n G S := by
  obtain ⟨c, hc, ht⟩ := hR.top
  obtain ⟨r, hrow⟩ := hR.row
  exact ⟨hr, ⟨c, hc, ht.grown hg (by intro e; injection e with e; exact ht.apart hR.ref.row (by decide) e)⟩, ⟨r, hrow.grown hg (by intro e; injection e with e; exact hrow.apart hR.ref.row (by decide) e)⟩, hR.cnt⟩
/-- The sections' kinds have been turned. -/
theorem RefK.secTurn (hR : RefK w z x y h n F S) (hg : w.grownBy w' (some h)) (hr : ∃ r, Lrow w' h 3 (kcl S' ++ r)) (hl : S'.length = S.length) : RefK w' z x y h n F S' := by
  obtain ⟨c, hc, ht⟩ := hR.top
  obtain ⟨r, hrow⟩ := hR.row
  have ht2 := ht.grown hg (by intro e; injection e with e; exact ht.apart hrow (by decide) e)
  rw [← hl] at ht2 hc
  exact ⟨hR.ref.grown hg (by intro e; injection e with e; exact hR.ref.top.apart hrow (by decide) e) (by intro e; injection e with e; exact hR.ref.row.apart hrow (by decide) e), ⟨c, hc, ht2⟩, hr, hl.trans hR.cnt⟩
theorem RefK.set_ (hR : RefK w z x y h n F S) {i : Nat} (hi : i < S.length) (v : Nat) : RefK (w.setCell ⟨h, i, none⟩ (.int .i64 v)) z x y h n F (S.set i v) := by
  obtain ⟨r, hrow⟩ := hR.row
  refine hR.secTurn (grown_set _ _ _ _) ⟨r, ?_⟩ (List.length_set)
  have := hrow.set_ i (.int .i64 v)
  rw [List.set_append_left _ _ (by rw [kcl_length]; exact hi), kcl_set] at this
  exact this
theorem refOf_any (hR : RefK w z x y h n F S) {f : Nat} (hf : f < n) (hn : n ≤ 1024) : Calls Try.prog 18 #[.pointer (some ⟨z, 0, none⟩), .int .i64 f] w fun e w' => e = .returned (.int .i64 (knd S f : Nat)) ∧ w = w' := by
  obtain ⟨c, hc, h1⟩ := hR.c1
  have hs : f / 8 < S.length := by rw [hR.cnt]; omega
  have hcf := hR.at_ hs
  have HE : Hid (((S.getD (f / 8) 0 : Nat) : Int) = (knd S f : Nat)) := by show _ = _; rfl
  obtain ⟨v, hv⟩ : ∃ v : Nat, v = S.getD (f / 8) 0 := ⟨_, rfl⟩
  rw [← hv] at hcf HE
  obtain ⟨m, em⟩ : ∃ m, m = S.length := ⟨_, rfl⟩
  rw [← em] at h1 hc hs
  clear hR hv em
  go_enter Try.func18, Try.ntmps18
  go_wp2
  go_ret
  exact ⟨ret_int HE.out, rfl⟩
theorem refFreeOf_any (hR : RefK w z x y h n F S) (kd : Int) : Calls Try.prog 14 #[.pointer (some ⟨z, 0, none⟩), .int .i64 kd] w fun e w' => e = .returned (.int .i64 (frO F S kd : Nat)) ∧ w = w' := by
  have h0 := hR.c0
  have hc := hR.ref.field
  have hn := hR.ref.hi
  have HX := Lib.hid hR
  clear hR
  go_enter Try.func14, Try.ntmps14
  go_wp2
  go_loop [5, 6] (fun s i => ∃ j : Nat, j ≤ n ∧ i = .int .i64 j ∧ s = .int .i64 (cnR (frP F S kd) 0 j : Nat)) (fun _ i => n - (intOf i).toNat)
  case atStart => exact ⟨0, Nat.zero_le _, rfl, rfl⟩
  case round =>
    obtain ⟨j, hj, rfl, rfl⟩ := hrel
    by_cases hlt : j < n
    · obtain ⟨u, hu, hcu⟩ := HX.out.ref.at_ hlt
      have hO := refOf_any HX.out hlt hn
      have HS := Lib.hid (cnR_succ (frP F S kd) 0 j)
      have hle := cnR_le (frP F S kd) 0 j
      have hfp : frP F S kd j = (u && ((knd S j : Nat) : Int) == kd) := by unfold frP kdP; rw [hu]; cases u <;> rfl
      rw [Nat.zero_add, hfp] at HS
      obtain ⟨v, hv⟩ : ∃ v : Nat, v = knd S j := ⟨_, rfl⟩
      rw [← hv] at hO HS
      obtain ⟨t, ht⟩ : ∃ t, t = cnR (frP F S kd) 0 j := ⟨_, rfl⟩
      rw [← ht] at hle HS ⊢
      clear hu hfp hv ht
      cases u with
      | true =>
        by_cases hvk : (v : Int) = kd
        · have hvb : ((v : Int) == kd) = true := by simp [hvk]
          have HT : Hid (cnR (frP F S kd) 0 (j + 1) = t + 1) := by show _ = _; rw [HS.out, hvb]; rfl
          clear hvk
          go_wp2_with (go_at_call 18; refine hO.mono ?_; rintro e w' ⟨rfl, rfl⟩)
          go_round
          case rel => exact ⟨j + 1, by omega, by go_num, by rw [HT.out]; go_num⟩
          case measure => simp [intOf]; omega
        · have hvb : ((v : Int) == kd) = false := by simpa using hvk
          have HT : Hid (cnR (frP F S kd) 0 (j + 1) = t) := by show _ = _; rw [HS.out, hvb]; rfl
          clear hvk
          go_wp2_with (go_at_call 18; refine hO.mono ?_; rintro e w' ⟨rfl, rfl⟩)
          go_round
          case rel => exact ⟨j + 1, by omega, by go_num, by rw [HT.out]⟩
          case measure => simp [intOf]; omega
      | false =>
        have HT : Hid (cnR (frP F S kd) 0 (j + 1) = t) := by show _ = _; rw [HS.out]; rfl
        go_wp2
        go_round
        case rel => exact ⟨j + 1, by omega, by go_num, by rw [HT.out]⟩
        case measure => simp [intOf]; omega
    · obtain rfl : j = n := by omega
      have HE : Hid (cnR (frP F S kd) 0 j = frO F S kd) := by show _ = _; unfold frO; rw [HX.out.ref.len]
      go_wp2
      go_ret
      exact ⟨ret_int (by rw [HE.out]), rfl⟩
/-- A change of the sections' kinds of the reference. -/
def RefSec (z x y h n : Nat) (E : Int) (F : List Bool) (S : List Nat) (w : World) (e : Ending) (w' : World) : Prop := e = .returned (.int .i64 E) ∧ RefK w' z x y h n F S ∧ w.grownBy w' (some h)
theorem refSet_any (hR : RefK w z x y h n F S) (hn : n ≤ 1024) (s t : Int) : Calls Try.prog 31 #[.pointer (some ⟨z, 0, none⟩), .int .i64 s, .int .i64 t] w (RefSec z x y h n (stE S.length s t) F (stS S s t) w) := by
  obtain ⟨c, hc, h1⟩ := hR.c1
  have hm : S.length ≤ 128 := by rw [hR.cnt]; omega
  have HX := Lib.hid hR
  by_cases b1 : s < 0
  · have HE : Hid (3 = stE S.length s t) := by show _ = _; unfold stE; rw [if_pos (Or.inl b1)]
    have HS : Hid (S = stS S s t) := by show _ = _; unfold stS; rw [if_neg (by rw [← HE.out]; decide)]
    generalize stE S.length s t = E at HE ⊢
    generalize stS S s t = S2 at HS ⊢
    clear hR
    go_enter Try.func31, Try.ntmps31
    go_wp2
    go_ret
    exact ⟨ret_int HE.out, by rw [← HS.out]; exact HX.out, World.grownBy.refl _ _⟩
  · by_cases b2 : (S.length : Int) ≤ s
    · have HE : Hid (3 = stE S.length s t) := by show _ = _; unfold stE; rw [if_pos (Or.inr b2)]
      have HS : Hid (S = stS S s t) := by show _ = _; unfold stS; rw [if_neg (by rw [← HE.out]; decide)]
      generalize stE S.length s t = E at HE ⊢
      generalize stS S s t = S2 at HS ⊢
      clear hR
      go_enter Try.func31, Try.ntmps31
      go_wp2
      go_ret
      exact ⟨ret_int HE.out, by rw [← HS.out]; exact HX.out, World.grownBy.refl _ _⟩
    · by_cases b3 : t < 0
      · have HE : Hid (2 = stE S.length s t) := by show _ = _; unfold stE; rw [if_neg (by omega), if_pos (Or.inl b3)]
        have HS : Hid (S = stS S s t) := by show _ = _; unfold stS; rw [if_neg (by rw [← HE.out]; decide)]
        generalize stE S.length s t = E at HE ⊢
        generalize stS S s t = S2 at HS ⊢
        clear hR
        go_enter Try.func31, Try.ntmps31
        go_wp2
        go_ret
        exact ⟨ret_int HE.out, by rw [← HS.out]; exact HX.out, World.grownBy.refl _ _⟩
      · by_cases b4 : 3 < t
        · have HE : Hid (2 = stE S.length s t) := by show _ = _; unfold stE; rw [if_neg (by omega), if_pos (Or.inr b4)]
          have HS : Hid (S = stS S s t) := by show _ = _; unfold stS; rw [if_neg (by rw [← HE.out]; decide)]
          generalize stE S.length s t = E at HE ⊢
          generalize stS S s t = S2 at HS ⊢
          clear hR
          go_enter Try.func31, Try.ntmps31
          go_wp2
          go_ret
          exact ⟨ret_int HE.out, by rw [← HS.out]; exact HX.out, World.grownBy.refl _ _⟩
        · have HE : Hid (0 = stE S.length s t) := by show _ = _; unfold stE; rw [if_neg (by omega), if_neg (by omega)]
          have HS : Hid (S.set s.toNat t.toNat = stS S s t) := by show _ = _; unfold stS; rw [if_pos HE.out.symm]
          generalize stE S.length s t = E at HE ⊢
          generalize stS S s t = S2 at HS ⊢
          obtain ⟨s, rfl⟩ : ∃ x : Nat, s = x := ⟨s.toNat, by omega⟩
          obtain ⟨t, rfl⟩ : ∃ x : Nat, t = x := ⟨t.toNat, by omega⟩
          simp only [Int.toNat_natCast] at HS
          have hsl : s < S.length := by omega
          have hcs := hR.at_ hsl
          have hz := hR.fz s
          have HR2 := Lib.hid (hR.set_ hsl t)
          obtain ⟨m, em⟩ : ∃ m, m = S.length := ⟨_, rfl⟩
          rw [← em] at h1 hc hm b2 hsl
          clear hR em b1 b3
          go_enter Try.func31, Try.ntmps31
          go_wp2
          go_ret
          exact ⟨ret_int HE.out, by rw [← HS.out]; exact HR2.out, grown_set _ _ _ _⟩
end
end Go.Proofs.Ytfjphlickpgbnaa
