/- The reference by kinds: its memory; Of, FreeOf, Set, New. -/
import Derived.Test.YtklhcgekagimkaaGreatMg22
namespace Go.Proofs.YtklhcgekagimkaaGreat
variable {Xc : Nat → Prop}
open Go.RowKit

/-- The struct in block z over the frames of block x, the sections' kinds in block h, at the row's front. -/
structure RefK (w : World) (z x y h n : Nat) (F : List Bool) (S : List Nat) : Prop where
  ref : RefAt w x y n F
  top : ∃ c, S.length ≤ c ∧ Lrow w z 48 [.pointer (some ⟨x, 0, none⟩), .slice (some ⟨h, 0, none⟩) S.length c]
  row : ∃ r, Lrow w h 3 (kcl S ++ r)
  cnt : S.length = (n + 7) / 8
section
variable {w w' : World} {z x y h n B : Nat} {F G : List Bool} {S S' : List Nat}
theorem RefK.c0 (hR : RefK w z x y h n F S) : w.cell? ⟨z, 0, none⟩ = some (.pointer (some ⟨x, 0, none⟩)) := by
  obtain ⟨c, _, r⟩ := hR.top
  rw [r.cell]; rfl
theorem RefK.c1 (hR : RefK w z x y h n F S) : ∃ c, S.length ≤ c ∧ w.cell? ⟨z, 1, none⟩ = some (.slice (some ⟨h, 0, none⟩) S.length c) := by
  obtain ⟨c, hc, r⟩ := hR.top
  exact ⟨c, hc, by rw [r.cell]; rfl⟩
theorem RefK.at_ (hR : RefK w z x y h n F S) {i : Nat} (hi : i < S.length) : w.cell? ⟨h, i, none⟩ = some (.int .i64 (S.getD i 0 : Nat)) := by
  obtain ⟨r, hr⟩ := hR.row
  rw [hr.cell, List.getElem?_append_left (by rw [kcl_length]; exact hi), kcl_get, getD_of S 0 i hi]; rfl
theorem RefK.fz (hR : RefK w z x y h n F S) (i : Nat) : w.frozen? ⟨h, i, none⟩ = false := by
  obtain ⟨r, hr⟩ := hR.row
  exact hr.frozen i
theorem RefK.lt (hR : RefK w z x y h n F S) : z < w.heap.size ∧ h < w.heap.size := by
  obtain ⟨r, hr⟩ := hR.row
  obtain ⟨c, _, ht⟩ := hR.top
  exact ⟨ht.lt, hr.lt⟩
theorem RefK.keep (hR : RefK w z x y h n F S) (hr : RefAt w' x y n F) (hk : ∀ g t vs, Lrow w g t vs → t = 48 ∨ g = h → Lrow w' g t vs) : RefK w' z x y h n F S := by
  obtain ⟨c, hc, ht⟩ := hR.top
  obtain ⟨r, hrow⟩ := hR.row
  exact ⟨hr, ⟨c, hc, hk _ _ _ ht (Or.inl rfl)⟩, ⟨r, hk _ _ _ hrow (Or.inr rfl)⟩, hR.cnt⟩
theorem RefK.call (hR : RefK w z x y h n F S) (hb : Below w.heap.size w w') : RefK w' z x y h n F S := hR.keep (hR.ref.call hb) fun _ _ _ r _ => r.call hb
theorem RefK.alloc (hR : RefK w z x y h n F S) (o : Obj) : RefK (w.alloc o) z x y h n F S := hR.call ((Below.refl _ _).alloc (Nat.le_refl _) o)
theorem RefK.drewN (hR : RefK w z x y h n F S) (q : Nat) : RefK (w.drewN q) z x y h n F S := hR.call (below_dN (Below.refl _ _) q)
theorem RefK.turn (hR : RefK w z x y h n F S) (ht : Turn Xc B w w') (hX : Xc h) : RefK w' z x y h n F S := hR.keep (hR.ref.turn ht) fun g t vs r e => by
  rcases e with rfl | rfl
  · exact ht.row _ _ _ r (by decide) (by decide)
  · exact (ht.exc _ hX r.lt).trans r
theorem RefK.grown {b : Nat} {t : TypeId} {vs : List Value} (hR : RefK w z x y h n F S) (r : Lrow w b t vs) (hg : w.grownBy w' (some b)) (h1 : t ≠ 3) (h2 : t ≠ 48) (h3 : t ≠ 4) (h4 : t ≠ 90) : RefK w' z x y h n F S := by
  refine hR.keep (hR.ref.grown hg ?_ ?_) fun g s us q e => q.grown hg ?_
  · intro e; injection e with e; subst e; exact r.apart hR.ref.top h4 rfl
  · intro e; injection e with e; subst e; exact r.apart hR.ref.row h3 rfl
  · intro e2; injection e2 with e2; subst e2
    rcases e with rfl | rfl
    · exact r.apart q h2 rfl
    · obtain ⟨r', hr'⟩ := hR.row
      exact r.apart hr' h1 rfl
/-- The frames have been turned. -/
theorem RefK.refGrown (hR : RefK w z x y h n F S) (hg : w.grownBy w' (some y)) (hr : RefAt w' x y n G) : RefK w' z x y h n G S := by
  obtain ⟨c, hc, ht⟩ := hR.top
  obtain ⟨r, hrow⟩ := hR.row
  exact ⟨hr, ⟨c, hc, ht.grown hg (by intro e; injection e with e; exact ht.apart hR.ref.row (by decide) e)⟩, ⟨r, hrow.grown hg (by intro e; injection e with e; exact hrow.apart hR.ref.row (by decide) e)⟩, hR.cnt⟩
/-- The sections' kinds have been turned. -/
theorem RefK.secTurn (hR : RefK w z x y h n F S) (hg : w.grownBy w' (some h)) (hr : ∃ r, Lrow w' h 3 (kcl S' ++ r)) (hl : S'.length = S.length) : RefK w' z x y h n F S' := by
  obtain ⟨c, hc, ht⟩ := hR.top
  obtain ⟨r, hrow⟩ := hR.row
  have ht2 := ht.grown hg (by intro e; injection e with e; exact ht.apart hrow (by decide) e)
  rw [← hl] at ht2 hc
  exact ⟨hR.ref.grown hg (by intro e; injection e with e; exact hR.ref.top.apart hrow (by decide) e) (by intro e; injection e with e; exact hR.ref.row.apart hrow (by decide) e), ⟨c, hc, ht2⟩, hr, hl.trans hR.cnt⟩
theorem RefK.set_ (hR : RefK w z x y h n F S) {i : Nat} (hi : i < S.length) (v : Nat) : RefK (w.setCell ⟨h, i, none⟩ (.int .i64 v)) z x y h n F (S.set i v) := by
  obtain ⟨r, hrow⟩ := hR.row
  refine hR.secTurn (grown_set _ _ _ _) ⟨r, ?_⟩ (List.length_set)
  have := hrow.set_ i (.int .i64 v)
  rw [List.set_append_left _ _ (by rw [kcl_length]; exact hi), kcl_set] at this
  exact this
theorem refOf_any (hR : RefK w z x y h n F S) {f : Nat} (hf : f < n) (hn : n ≤ 1024) : Calls Tryz.prog 13 #[.pointer (some ⟨z, 0, none⟩), .int .i64 f] w fun e w' => e = .returned (.int .i64 (knd S f : Nat)) ∧ w = w' := by
  obtain ⟨c, hc, h1⟩ := hR.c1
  have hs : f / 8 < S.length := by rw [hR.cnt]; omega
  have hcf := hR.at_ hs
  have HE : Hid (((S.getD (f / 8) 0 : Nat) : Int) = (knd S f : Nat)) := by show _ = _; rfl
  obtain ⟨v, hv⟩ : ∃ v : Nat, v = S.getD (f / 8) 0 := ⟨_, rfl⟩
  rw [← hv] at hcf HE
  obtain ⟨m, em⟩ : ∃ m, m = S.length := ⟨_, rfl⟩
  rw [← em] at h1 hc hs
  clear hR hv em
  go_enter Tryz.func13, Tryz.ntmps13
  go_wp2
  go_ret
  exact ⟨ret_int HE.out, rfl⟩
theorem refFreeOf_any (hR : RefK w z x y h n F S) (kd : Int) : Calls Tryz.prog 45 #[.pointer (some ⟨z, 0, none⟩), .int .i64 kd] w fun e w' => e = .returned (.int .i64 (frO F S kd : Nat)) ∧ w = w' := by
  have h0 := hR.c0
  have hc := hR.ref.field
  have hn := hR.ref.hi
  have HX := Lib.hid hR
  clear hR
  go_enter Tryz.func45, Tryz.ntmps45
  go_wp2
  go_loop [5, 6] (fun s i => ∃ j : Nat, j ≤ n ∧ i = .int .i64 j ∧ s = .int .i64 (cnR (frP F S kd) 0 j : Nat)) (fun _ i => n - (intOf i).toNat)
  case atStart => exact ⟨0, Nat.zero_le _, rfl, rfl⟩
  case round =>
    obtain ⟨j, hj, rfl, rfl⟩ := hrel
    by_cases hlt : j < n
    · obtain ⟨u, hu, hcu⟩ := HX.out.ref.at_ hlt
      have hO := refOf_any HX.out hlt hn
      have HS := Lib.hid (cnR_succ (frP F S kd) 0 j)
      have hle := cnR_le (frP F S kd) 0 j
      have hfp : frP F S kd j = (u && ((knd S j : Nat) : Int) == kd) := by unfold frP kdP; rw [hu]; cases u <;> rfl
      rw [Nat.zero_add, hfp] at HS
      obtain ⟨v, hv⟩ : ∃ v : Nat, v = knd S j := ⟨_, rfl⟩
      rw [← hv] at hO HS
      obtain ⟨t, ht⟩ : ∃ t, t = cnR (frP F S kd) 0 j := ⟨_, rfl⟩
      rw [← ht] at hle HS ⊢
      clear hu hfp hv ht
      cases u with
      | true =>
        by_cases hvk : (v : Int) = kd
        · have hvb : ((v : Int) == kd) = true := by simp [hvk]
          have HT : Hid (cnR (frP F S kd) 0 (j + 1) = t + 1) := by show _ = _; rw [HS.out, hvb]; rfl
          clear hvk
          go_wp2_with (go_at_call 13; refine hO.mono ?_; rintro e w' ⟨rfl, rfl⟩)
          go_round
          case rel => exact ⟨j + 1, by omega, by go_num, by rw [HT.out]; go_num⟩
          case measure => simp [intOf]; omega
        · have hvb : ((v : Int) == kd) = false := by simpa using hvk
          have HT : Hid (cnR (frP F S kd) 0 (j + 1) = t) := by show _ = _; rw [HS.out, hvb]; rfl
          clear hvk
          go_wp2_with (go_at_call 13; refine hO.mono ?_; rintro e w' ⟨rfl, rfl⟩)
          go_round
          case rel => exact ⟨j + 1, by omega, by go_num, by rw [HT.out]⟩
          case measure => simp [intOf]; omega
      | false =>
        have HT : Hid (cnR (frP F S kd) 0 (j + 1) = t) := by show _ = _; rw [HS.out]; rfl
        go_wp2
        go_round
        case rel => exact ⟨j + 1, by omega, by go_num, by rw [HT.out]⟩
        case measure => simp [intOf]; omega
    · obtain rfl : j = n := by omega
      have HE : Hid (cnR (frP F S kd) 0 j = frO F S kd) := by show _ = _; unfold frO; rw [HX.out.ref.len]
      go_wp2
      go_ret
      exact ⟨ret_int (by rw [HE.out]), rfl⟩
/-- A change of the sections' kinds of the reference. -/
def RefSec (z x y h n : Nat) (E : Int) (F : List Bool) (S : List Nat) (w : World) (e : Ending) (w' : World) : Prop := e = .returned (.int .i64 E) ∧ RefK w' z x y h n F S ∧ w.grownBy w' (some h)
theorem refSet_any (hR : RefK w z x y h n F S) (hn : n ≤ 1024) (s t : Int) : Calls Tryz.prog 58 #[.pointer (some ⟨z, 0, none⟩), .int .i64 s, .int .i64 t] w (RefSec z x y h n (stE S.length s t) F (stS S s t) w) := by
  obtain ⟨c, hc, h1⟩ := hR.c1
  have hm : S.length ≤ 128 := by rw [hR.cnt]; omega
  have HX := Lib.hid hR
  by_cases b1 : s < 0
  · have HE : Hid (3 = stE S.length s t) := by show _ = _; unfold stE; rw [if_pos (Or.inl b1)]
    have HS : Hid (S = stS S s t) := by show _ = _; unfold stS; rw [if_neg (by rw [← HE.out]; decide)]
    generalize stE S.length s t = E at HE ⊢
    generalize stS S s t = S2 at HS ⊢
    clear hR
    go_enter Tryz.func58, Tryz.ntmps58
    go_wp2
    go_ret
    exact ⟨ret_int HE.out, by rw [← HS.out]; exact HX.out, World.grownBy.refl _ _⟩
  · by_cases b2 : (S.length : Int) ≤ s
    · have HE : Hid (3 = stE S.length s t) := by show _ = _; unfold stE; rw [if_pos (Or.inr b2)]
      have HS : Hid (S = stS S s t) := by show _ = _; unfold stS; rw [if_neg (by rw [← HE.out]; decide)]
      generalize stE S.length s t = E at HE ⊢
      generalize stS S s t = S2 at HS ⊢
      clear hR
      go_enter Tryz.func58, Tryz.ntmps58
      go_wp2
      go_ret
      exact ⟨ret_int HE.out, by rw [← HS.out]; exact HX.out, World.grownBy.refl _ _⟩
    · by_cases b3 : t < 0
      · have HE : Hid (2 = stE S.length s t) := by show _ = _; unfold stE; rw [if_neg (by omega), if_pos (Or.inl b3)]
        have HS : Hid (S = stS S s t) := by show _ = _; unfold stS; rw [if_neg (by rw [← HE.out]; decide)]
        generalize stE S.length s t = E at HE ⊢
        generalize stS S s t = S2 at HS ⊢
        clear hR
        go_enter Tryz.func58, Tryz.ntmps58
        go_wp2
        go_ret
        exact ⟨ret_int HE.out, by rw [← HS.out]; exact HX.out, World.grownBy.refl _ _⟩
      · by_cases b4 : 3 < t
        · have HE : Hid (2 = stE S.length s t) := by show _ = _; unfold stE; rw [if_neg (by omega), if_pos (Or.inr b4)]
          have HS : Hid (S = stS S s t) := by show _ = _; unfold stS; rw [if_neg (by rw [← HE.out]; decide)]
          generalize stE S.length s t = E at HE ⊢
          generalize stS S s t = S2 at HS ⊢
          clear hR
          go_enter Tryz.func58, Tryz.ntmps58
          go_wp2
          go_ret
          exact ⟨ret_int HE.out, by rw [← HS.out]; exact HX.out, World.grownBy.refl _ _⟩
        · have HE : Hid (0 = stE S.length s t) := by show _ = _; unfold stE; rw [if_neg (by omega), if_neg (by omega)]
          have HS : Hid (S.set s.toNat t.toNat = stS S s t) := by show _ = _; unfold stS; rw [if_pos HE.out.symm]
          generalize stE S.length s t = E at HE ⊢
          generalize stS S s t = S2 at HS ⊢
          obtain ⟨s, rfl⟩ : ∃ x : Nat, s = x := ⟨s.toNat, by omega⟩
          obtain ⟨t, rfl⟩ : ∃ x : Nat, t = x := ⟨t.toNat, by omega⟩
          simp only [Int.toNat_natCast] at HS
          have hsl : s < S.length := by omega
          have hcs := hR.at_ hsl
          have hz := hR.fz s
          have HR2 := Lib.hid (hR.set_ hsl t)
          obtain ⟨m, em⟩ : ∃ m, m = S.length := ⟨_, rfl⟩
          rw [← em] at h1 hc hm b2 hsl
          clear hR em b1 b3
          go_enter Tryz.func58, Tryz.ntmps58
          go_wp2
          go_ret
          exact ⟨ret_int HE.out, by rw [← HS.out]; exact HR2.out, grown_set _ _ _ _⟩
end
end Go.Proofs.YtklhcgekagimkaaGreat
/- The reference by kinds: New. -/
namespace Go.Proofs.YtklhcgekagimkaaGreat
open Go.RowKit

theorem own_formI {W : World} {C n : Nat} {v : Value} {xs : List Value} (h : W.ownsRow C 3 1 v n xs) : ∃ A c, v = .slice A n c := by
  rcases h.2 with ⟨h1, h2⟩ | ⟨g, cap, cur, h1, _⟩
  · exact ⟨none, 0, by rw [h1, h2]⟩
  · exact ⟨_, _, h1⟩
theorem own_farI {w w' : World} {B m b : Nat} {v : Value} {xs vs : List Value} {t : TypeId} (h : w.ownsRow B 3 1 v m xs) (hg : w.grownBy w' v.ownBlock) (r : Lrow w b t vs) (hne : t ≠ 3) : Lrow w' b t vs := r.grown hg (fun e => by
  rcases h.2 with ⟨e2, _⟩ | ⟨q, cap, cur, e2, _, hq, _⟩
  · rw [e2] at e; simp [Value.ownBlock] at e
  · rw [e2] at e
    simp only [Value.ownBlock, Option.some.injEq] at e
    exact r.apart (show Lrow w q 3 cur.toList from hq) hne e)
theorem own_callI {w w' : World} {B : Nat} {v : Value} {m : Nat} {xs : List Value} (h : w.ownsRow B 3 1 v m xs) (hk : ∀ g vs, Lrow w g 3 vs → Lrow w' g 3 vs) : w'.ownsRow B 3 1 v m xs := by
  refine ⟨h.1, ?_⟩
  rcases h.2 with hn | ⟨g, cap, cur, rfl, hbg, hg, rest⟩
  · exact Or.inl hn
  · exact Or.inr ⟨g, cap, cur, rfl, hbg, hk g cur.toList hg, rest⟩
theorem new_one (w : World) (x : Int) : ∀ (i : Nat) (u : Value), [Value.int .i64 x][i]? = some u → (w.alloc (.cells #[.int .i64 x] 3)).cell? ((⟨w.heap.size, 0, none⟩ : Addr).add i) = some u := fun i u hu => by
  rw [add_zero_off, (Lrow.new w _ [.int .i64 x]).cell]; exact hu
theorem one_one (x : Int) : ∀ u ∈ [Value.int .i64 x], u.oneCell' = true := by
  intro u hu; simp at hu; rw [hu]; rfl
section
variable {w : World}
theorem refKNew_bad {f : Int} (h : f < 8 ∨ 1024 < f) (w : World) : Calls Tryz.prog 52 #[.int .i64 f] w fun e w' => e = .returned (.tuple #[.pointer none, .int .i64 2]) ∧ w = w' := by
  have hN := fun W => refNew_bad h W
  clear h
  go_enter Tryz.func52, Tryz.ntmps52
  go_wp2_with (go_at_call 31; refine (hN _).mono ?_; rintro e w' ⟨rfl, rfl⟩)
  go_ret2
  exact ⟨rfl, rfl⟩
/-- A new reference: all frames free, all sections movable. -/
def RefKNewly (n : Nat) (w : World) (e : Ending) (w' : World) : Prop :=
  ∃ z x y h, e = .returned (.tuple #[.pointer (some ⟨z, 0, none⟩), .int .i64 0]) ∧ Below w.heap.size w w' ∧ RefK w' z x y h n (List.replicate n true) (List.replicate ((n + 7) / 8) 1) ∧ w.heap.size ≤ z ∧ w.heap.size ≤ x ∧ w.heap.size ≤ y ∧ w.heap.size ≤ h
set_option maxHeartbeats 1000000 in
set_option maxRecDepth 100000 in
theorem refKNew_any (n : Nat) (h1 : 8 ≤ n) (h2 : n ≤ 1024) (w : World) : Calls Tryz.prog 52 #[.int .i64 n] w (RefKNewly n w) := by
  have hN := refNew_any n h1 h2 w
  obtain ⟨i0, hi0, hz0, hz1, hz2⟩ := info_parts info_int
  have HI := Lib.hid (And.intro hi0 (And.intro hz0 (And.intro hz1 hz2)))
  clear hi0 hz0 hz1 hz2
  go_enter Tryz.func52, Tryz.ntmps52
  go_wp2_with fail
  refine Calls.mono hN ?_
  rintro e w1 ⟨rfl, hb1, hr1⟩
  obtain ⟨x, hx⟩ : ∃ x, x = w.heap.size + 1 := ⟨_, rfl⟩
  obtain ⟨y, hy⟩ : ∃ y, y = w.heap.size := ⟨_, rfl⟩
  rw [← hx, ← hy] at hr1
  rw [← hx]
  have HX := Lib.hid hx
  have HY := Lib.hid hy
  have HR1 := Lib.hid hr1
  have HB1 := Lib.hid hb1
  clear hx hy hr1 hb1 hN
  go_wp2_with fail
  obtain ⟨W, hW⟩ : ∃ W, W = w1.alloc (.cells #[.pointer (some ⟨x, 0, none⟩), .slice none 0 0] 48) := ⟨_, rfl⟩
  obtain ⟨z, hz⟩ : ∃ z, z = w1.heap.size := ⟨_, rfl⟩
  rw [← hW, ← hz]
  have hbW : Below w1.heap.size w1 W := by rw [hW]; exact (Below.refl _ _).alloc (Nat.le_refl _) _
  have HT : Hid (Lrow W z 48 [.pointer (some ⟨x, 0, none⟩), .slice none 0 0]) := by show Lrow _ _ _ _; rw [hW, hz]; exact Lrow.new _ _ _
  have HRW := Lib.hid (HR1.out.call hbW)
  have HBW := Lib.hid (HB1.out.trans (hbW.mono HB1.out.size))
  have HZ : Hid (w.heap.size ≤ z) := by show _ ≤ _; rw [hz]; exact HB1.out.size
  clear hW hz hbW
  go_loopw [7] (fun t wr => ∃ (j : Nat) (A : Option Addr) (c : Nat), j ≤ (n + 7) / 8 ∧ t = .int .i64 (j * 8 : Nat) ∧ Lrow wr z 48 [.pointer (some ⟨x, 0, none⟩), .slice A j c] ∧ wr.ownsRow w.heap.size 3 1 (.slice A j c) j (kcl (List.replicate j 1)) ∧ RefAt wr x y n (List.replicate n true) ∧ Below w.heap.size w wr) (fun t _ => n + 8 - (intOf t).toNat)
  case atStart => exact ⟨0, none, 0, Nat.zero_le _, rfl, HT.out, World.ownsRow_nil _ _ _ _, HRW.out, HBW.out⟩
  case round =>
    obtain ⟨j, A, c, hj, rfl, ht, hown, hra, hb⟩ := hrel
    by_cases hlt : j * 8 < n
    · obtain ⟨hi0, hz0, hz1, hz2⟩ := HI.out
      have hc1 : wr.cell? ⟨z, 1, none⟩ = some (.slice A j c) := ht.cell 1
      have hzs : z < wr.heap.size := ht.lt
      have hzn : ¬ z = wr.heap.size := by omega
      have hsz := hb.size
      have hba : Below wr.heap.size wr (wr.alloc (.cells #[.int .i64 1] 3)) := (Below.refl _ _).alloc (Nat.le_refl _) _
      have HRA := Lib.hid (hra.call hba)
      have HBA := Lib.hid (hb.trans (hba.mono hb.size))
      have HTA := Lib.hid (ht.call hba)
      have howna := hown.alloc (.cells #[.int .i64 1] 3)
      have HOA := Lib.hid howna
      clear hra hb ht hba
      go_wp2_with (at_builtin; refine wpList_append_own _ rfl _ _ 30 rfl w.heap.size 3 i0 (.int .i64 0) 1 8 Tryz.underlying30 hi0 hz0 hz1 hz2 rfl (by decide) _ j (kcl (List.replicate j 1)) rfl howna ⟨wr.heap.size, 0, none⟩ 1 1 [.int .i64 1] rfl rfl (new_one wr 1) (one_one 1) (by unfold maxLen; omega) (by omega) (by simp; omega) ?_; intro v' w2 hown2 hgr hn2; obtain ⟨A2, c2, hv2⟩ := own_formI hown2; subst hv2; have ht2 := own_farI HOA.out hgr HTA.out (by decide); have hf2 := ht2.frozen 1; have hc2 : w2.cell? ⟨z, 1, none⟩ = some (.slice A j c) := ht2.cell 1)
      have hgr' : (wr.alloc (.cells #[.int .i64 1] 3)).grownBy w2 (Value.slice A j c).ownBlock := hgr
      have hset := grown_set w2 z 1 (.slice A2 (j + 1) c2)
      have hne : ∀ {b : Nat} {t : TypeId} {vs : List Value}, Lrow w2 b t vs → t ≠ 48 → Lrow (w2.setCell ⟨z, 1, none⟩ (.slice A2 (j + 1) c2)) b t vs := fun r h => r.grown hset (fun e => by injection e with e; exact r.apart ht2 h e)
      have HT3 : Hid (Lrow (w2.setCell ⟨z, 1, none⟩ (.slice A2 (j + 1) c2)) z 48 [.pointer (some ⟨x, 0, none⟩), .slice A2 (j + 1) c2]) := ht2.set_ 1 _
      have hkc : kcl (List.replicate (j + 1) 1) = kcl (List.replicate j 1) ++ [.int .i64 1] := by rw [List.replicate_succ']; simp [kcl]
      have HO3 : Hid ((w2.setCell ⟨z, 1, none⟩ (.slice A2 (j + 1) c2)).ownsRow w.heap.size 3 1 (.slice A2 (j + 1) c2) (j + 1) (kcl (List.replicate (j + 1) 1))) := by
        show World.ownsRow _ _ _ _ _ _ _
        rw [hkc]
        exact own_callI hown2 fun g vs r => hne r (by decide)
      have HR3 : Hid (RefAt (w2.setCell ⟨z, 1, none⟩ (.slice A2 (j + 1) c2)) x y n (List.replicate n true)) :=
        ⟨HRA.out.len, HRA.out.hi, hne (own_farI HOA.out hgr' HRA.out.top (by decide)) (by decide), hne (own_farI HOA.out hgr' HRA.out.row (by decide)) (by decide)⟩
      have HB3 : Hid (Below w.heap.size w (w2.setCell ⟨z, 1, none⟩ (.slice A2 (j + 1) c2))) :=
        (HBA.out.grown hgr' HBA.out.size (fun k e => (HOA.out.lt k e).1)).setCell (p := ⟨z, 1, none⟩) HZ.out _
      clear hown hc1 howna hgr hgr' hown2 hn2 ht2 hf2 hc2 hset hne hkc hi0 hz0 hz1 hz2
      go_roundw
      case rel => exact ⟨j + 1, A2, c2, by omega, by go_num, HT3.out, HO3.out, HR3.out, HB3.out⟩
      case measure => simp [intOf]; omega
    · have hjm : j = (n + 7) / 8 := by omega
      have HJ := Lib.hid hjm
      have HT3 := Lib.hid ht
      have HO3 := Lib.hid hown
      have HR3 := Lib.hid hra
      have HB3 := Lib.hid hb
      clear ht hown hra hb hjm
      go_wp2
      go_ret2
      rcases HO3.out.2 with ⟨_, h0⟩ | ⟨g, cap, cur, hv, hgb, hg, hcap, _, _, htk⟩
      · exact absurd h0 (by have := HJ.out; omega)
      · injection hv with hA _ hc
        subst hA hc
        unfold RefKNewly
        rw [← HJ.out]
        refine ⟨z, x, y, g, rfl, HB3.out, ⟨HR3.out, ⟨c, by rw [List.length_replicate]; exact hcap, by rw [List.length_replicate]; exact HT3.out⟩, ⟨cur.toList.drop j, ?_⟩, by rw [List.length_replicate]; exact HJ.out⟩, HZ.out, by have := HX.out; omega, by have := HY.out; omega, hgb⟩
        rw [Nat.mul_one] at htk
        rw [← htk, List.take_append_drop]
        unfold Lrow
        rw [hg]
end
end Go.Proofs.YtklhcgekagimkaaGreat
