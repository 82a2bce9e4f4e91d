/- The contracts of package geo on lists of blocks: a row of one order, lists put together, the cut. -/
import Derived.Test.YtbieecclnjpnpaaGc
import Derived.Maps.AppendAt
import Derived.Deep.AppendLies
import Derived.OwnWalk
import Derived.Laws.AppendOwnNone
namespace Go.Proofs.Ytbieecclnjpnpaa
open Go.RowKit

/-- What is returned: a list of blocks in memory of the call's own, nil if there is none. -/
def SomeBlks (w : World) (L : List (Nat × Nat)) (e : Ending) (w' : World) : Prop :=
  ∃ v, e = .returned v ∧ w'.ownsRow w.heap.size 41 2 v L.length (bcells L) ∧ (v = .slice none 0 0 ↔ L.length = 0) ∧ Below w.heap.size w w'
theorem info_block : (Try.prog.info? 41).map (fun i => (i.zero, i.size, i.bytes)) = some (some (.agg #[.int .i64 0, .int .i64 0]), 2, 16) := by kernel_rfl
theorem new_cells (w : World) (x y : Int) : ∀ (i : Nat) (u : Value), [Value.int .i64 x, Value.int .i64 y][i]? = some u → (w.alloc (.cells #[.int .i64 x, .int .i64 y] 41)).cell? ((⟨w.heap.size, 0, none⟩ : Addr).add i) = some u := fun i u hu => by
  rw [add_zero_off, (Row.new w _ _).cell]; simpa using hu
theorem two_one (x y : Int) : ∀ u ∈ [Value.int .i64 x, Value.int .i64 y], u.oneCell' = true := by
  intro u hu; simp at hu; rcases hu with rfl | rfl <;> rfl
theorem own_below {w w1 w2 : World} {B : Nat} {v : Value} {t : TypeId} {n : Nat} {xs : List Value} (hb : Below B w w1) (hB : B ≤ w1.heap.size) (ho : w1.ownsRow B t 2 v n xs) (hg : w1.grownBy w2 v.ownBlock) : Below B w w2 :=
  hb.grown hg hB (fun k e => (ho.lt k e).1)

set_option maxHeartbeats 400000 in
theorem row0_any (a m b : Nat) (hm : b = a + m * 1) (hb4 : b ≤ 4096) (w : World) : Calls Try.prog 28 #[.int .i64 a, .int .i64 b, .int .i64 0] w (SomeBlks w (rowL a m 0)) := by
  obtain ⟨i0, hi0, hz0, hz1, hz2⟩ := info_parts info_block
  have HM := Lib.hid hm
  clear hm
  go_enter Try.func28, Try.ntmps28
  go_wp2
  go_loopw [7, 8] (fun v i wr => ∃ j : Nat, j ≤ m ∧ i = .int .i64 (a + j * 1 : Nat) ∧ wr.ownsRow w.heap.size 41 2 v j (bcells (rowL a j 0)) ∧ (v = .slice none 0 0 ↔ j = 0) ∧ Below w.heap.size w wr) (fun _ i _ => b - (intOf i).toNat)
  case atStart => exact ⟨0, by omega, by simp, World.ownsRow_nil _ _ _ _, by simp, Below.refl _ _⟩
  case round =>
    obtain ⟨j, hj, rfl, hown, hnil, hb⟩ := hrel
    by_cases hlt : j < m
    · have HN := Lib.hid hnil
      have hsz := hb.size
      have HB := Lib.hid hb
      have hb2 := hb.alloc hsz (.cells #[.int .i64 (a + j * 1 : Nat), .int .i64 0] 41)
      have HB2 := Lib.hid hb2
      have hx : a + j * 1 < b := by rw [HM.out]; omega
      have hx2 : a + j * 1 ≤ 4096 := by omega
      have hj4 : j < 4096 := by have := HM.out; omega
      obtain ⟨x, ex⟩ : ∃ x, x = a + j * 1 := ⟨_, rfl⟩
      have HX := Lib.hid ex
      rw [← ex] at hx hx2 HB2 ⊢
      clear ex hnil hb hb2
      go_wp2_with (at_builtin; refine wpList_append_own _ rfl _ _ 38 rfl w.heap.size 41 i0 (.agg #[.int .i64 0, .int .i64 0]) 2 16 Try.underlying38 hi0 hz0 hz1 hz2 rfl (by decide) _ j (bcells (rowL a j 0)) rfl (hown.alloc _) ⟨wr.heap.size, 0, none⟩ 1 1 [.int .i64 x, .int .i64 0] rfl rfl (new_cells wr x 0) (two_one x 0) (by unfold maxLen; omega) (by omega) (by simp; omega) ?_; intro v' w2 hown2 hgr hn2)
      have HO := Lib.hid hown2
      have HB3 := Lib.hid (own_below HB2.out HB2.out.size (hown.alloc _) hgr)
      have HN2 : Hid (v' = .slice none 0 0 ↔ j + 1 = 0) := by show _ ↔ _; rw [hn2]; constructor <;> (intro h; omega)
      clear hown hown2 hgr hn2 HB2 HN HB hsz
      clear i0 hi0 hz0 hz1 hz2
      go_wp2
      go_roundw
      case rel => exact ⟨j + 1, by omega, by rw [HX.out]; go_num, by have := HO.out; rw [rowL_snoc, bcells_append]; rw [HX.out] at this; exact this, HN2.out, HB3.out⟩
      case measure => simp [intOf]; omega
    · obtain rfl : j = m := by omega
      have hge : b ≤ a + j * 1 := by rw [HM.out]; omega
      have HO := Lib.hid hown
      have HN := Lib.hid hnil
      have HB := Lib.hid hb
      clear hown hnil hb
      go_wp2
      go_ret
      exact ⟨_, rfl, by rw [rowL_length]; exact HO.out, by rw [rowL_length]; exact HN.out, HB.out⟩

set_option maxHeartbeats 400000 in
theorem row3_any (a m b : Nat) (hm : b = a + m * 8) (hb4 : b ≤ 4096) (w : World) : Calls Try.prog 28 #[.int .i64 a, .int .i64 b, .int .i64 3] w (SomeBlks w (rowL a m 3)) := by
  obtain ⟨i0, hi0, hz0, hz1, hz2⟩ := info_parts info_block
  have HM := Lib.hid hm
  clear hm
  go_enter Try.func28, Try.ntmps28
  go_wp2
  go_loopw [7, 8] (fun v i wr => ∃ j : Nat, j ≤ m ∧ i = .int .i64 (a + j * 8 : Nat) ∧ wr.ownsRow w.heap.size 41 2 v j (bcells (rowL a j 3)) ∧ (v = .slice none 0 0 ↔ j = 0) ∧ Below w.heap.size w wr) (fun _ i _ => b - (intOf i).toNat)
  case atStart => exact ⟨0, by omega, by simp, World.ownsRow_nil _ _ _ _, by simp, Below.refl _ _⟩
  case round =>
    obtain ⟨j, hj, rfl, hown, hnil, hb⟩ := hrel
    by_cases hlt : j < m
    · have HN := Lib.hid hnil
      have hsz := hb.size
      have HB := Lib.hid hb
      have hb2 := hb.alloc hsz (.cells #[.int .i64 (a + j * 8 : Nat), .int .i64 3] 41)
      have HB2 := Lib.hid hb2
      have hx : a + j * 8 < b := by rw [HM.out]; omega
      have hx2 : a + j * 8 ≤ 4096 := by omega
      have hj4 : j < 4096 := by have := HM.out; omega
      obtain ⟨x, ex⟩ : ∃ x, x = a + j * 8 := ⟨_, rfl⟩
      have HX := Lib.hid ex
      rw [← ex] at hx hx2 HB2 ⊢
      clear ex hnil hb hb2
      go_wp2_with (at_builtin; refine wpList_append_own _ rfl _ _ 38 rfl w.heap.size 41 i0 (.agg #[.int .i64 0, .int .i64 0]) 2 16 Try.underlying38 hi0 hz0 hz1 hz2 rfl (by decide) _ j (bcells (rowL a j 3)) rfl (hown.alloc _) ⟨wr.heap.size, 0, none⟩ 1 1 [.int .i64 x, .int .i64 3] rfl rfl (new_cells wr x 3) (two_one x 3) (by unfold maxLen; omega) (by omega) (by simp; omega) ?_; intro v' w2 hown2 hgr hn2)
      have HO := Lib.hid hown2
      have HB3 := Lib.hid (own_below HB2.out HB2.out.size (hown.alloc _) hgr)
      have HN2 : Hid (v' = .slice none 0 0 ↔ j + 1 = 0) := by show _ ↔ _; rw [hn2]; constructor <;> (intro h; omega)
      clear hown hown2 hgr hn2 HB2 HN HB hsz
      clear i0 hi0 hz0 hz1 hz2
      go_wp2
      go_roundw
      case rel => exact ⟨j + 1, by omega, by rw [HX.out]; go_num, by have := HO.out; rw [rowL_snoc, bcells_append]; rw [HX.out] at this; exact this, HN2.out, HB3.out⟩
      case measure => simp [intOf]; omega
    · obtain rfl : j = m := by omega
      have hge : b ≤ a + j * 8 := by rw [HM.out]; omega
      have HO := Lib.hid hown
      have HN := Lib.hid hnil
      have HB := Lib.hid hb
      clear hown hnil hb
      go_wp2
      go_ret
      exact ⟨_, rfl, by rw [rowL_length]; exact HO.out, by rw [rowL_length]; exact HN.out, HB.out⟩

set_option maxHeartbeats 400000 in
theorem row6_any (a m b : Nat) (hm : b = a + m * 64) (hb4 : b ≤ 4096) (w : World) : Calls Try.prog 28 #[.int .i64 a, .int .i64 b, .int .i64 6] w (SomeBlks w (rowL a m 6)) := by
  obtain ⟨i0, hi0, hz0, hz1, hz2⟩ := info_parts info_block
  have HM := Lib.hid hm
  clear hm
  go_enter Try.func28, Try.ntmps28
  go_wp2
  go_loopw [7, 8] (fun v i wr => ∃ j : Nat, j ≤ m ∧ i = .int .i64 (a + j * 64 : Nat) ∧ wr.ownsRow w.heap.size 41 2 v j (bcells (rowL a j 6)) ∧ (v = .slice none 0 0 ↔ j = 0) ∧ Below w.heap.size w wr) (fun _ i _ => b - (intOf i).toNat)
  case atStart => exact ⟨0, by omega, by simp, World.ownsRow_nil _ _ _ _, by simp, Below.refl _ _⟩
  case round =>
    obtain ⟨j, hj, rfl, hown, hnil, hb⟩ := hrel
    by_cases hlt : j < m
    · have HN := Lib.hid hnil
      have hsz := hb.size
      have HB := Lib.hid hb
      have hb2 := hb.alloc hsz (.cells #[.int .i64 (a + j * 64 : Nat), .int .i64 6] 41)
      have HB2 := Lib.hid hb2
      have hx : a + j * 64 < b := by rw [HM.out]; omega
      have hx2 : a + j * 64 ≤ 4096 := by omega
      have hj4 : j < 4096 := by have := HM.out; omega
      obtain ⟨x, ex⟩ : ∃ x, x = a + j * 64 := ⟨_, rfl⟩
      have HX := Lib.hid ex
      rw [← ex] at hx hx2 HB2 ⊢
      clear ex hnil hb hb2
      go_wp2_with (at_builtin; refine wpList_append_own _ rfl _ _ 38 rfl w.heap.size 41 i0 (.agg #[.int .i64 0, .int .i64 0]) 2 16 Try.underlying38 hi0 hz0 hz1 hz2 rfl (by decide) _ j (bcells (rowL a j 6)) rfl (hown.alloc _) ⟨wr.heap.size, 0, none⟩ 1 1 [.int .i64 x, .int .i64 6] rfl rfl (new_cells wr x 6) (two_one x 6) (by unfold maxLen; omega) (by omega) (by simp; omega) ?_; intro v' w2 hown2 hgr hn2)
      have HO := Lib.hid hown2
      have HB3 := Lib.hid (own_below HB2.out HB2.out.size (hown.alloc _) hgr)
      have HN2 : Hid (v' = .slice none 0 0 ↔ j + 1 = 0) := by show _ ↔ _; rw [hn2]; constructor <;> (intro h; omega)
      clear hown hown2 hgr hn2 HB2 HN HB hsz
      clear i0 hi0 hz0 hz1 hz2
      go_wp2
      go_roundw
      case rel => exact ⟨j + 1, by omega, by rw [HX.out]; go_num, by have := HO.out; rw [rowL_snoc, bcells_append]; rw [HX.out] at this; exact this, HN2.out, HB3.out⟩
      case measure => simp [intOf]; omega
    · obtain rfl : j = m := by omega
      have hge : b ≤ a + j * 64 := by rw [HM.out]; omega
      have HO := Lib.hid hown
      have HN := Lib.hid hnil
      have HB := Lib.hid hb
      clear hown hnil hb
      go_wp2
      go_ret
      exact ⟨_, rfl, by rw [rowL_length]; exact HO.out, by rw [rowL_length]; exact HN.out, HB.out⟩
end Go.Proofs.Ytbieecclnjpnpaa
