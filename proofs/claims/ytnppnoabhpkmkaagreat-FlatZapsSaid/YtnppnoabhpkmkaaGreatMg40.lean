/- Spaces: what must come at any rate. -/
import Derived.Test.YtnppnoabhpkmkaaGreatMg38
namespace Go.Proofs.YtnppnoabhpkmkaaGreat
open Go.RowKit
/-- A call of the program's Do, its operation written out. -/
theorem FlI.do9 (I : FlI) {B : Nat} {w : World} {s : Nat} {X : Nat → Prop} {F : Fl} {m : Nat} (h : I.Fo B w s X F) (hF : FlB m F) (hm : m ≤ 200) (k sp a n hw p t c v : Int) (hr : IsRq ⟨k, sp, a, n, hw, p, t, c, v⟩) : Calls Tryz.prog 11 #[.pointer (some ⟨s, 0, none⟩), .agg #[.int .i64 k, .int .i64 sp, .int .i64 a, .int .i64 n, .int .i64 hw, .int .i64 p, .int .i64 t, .int .i64 c, .int .u64 v]] w
    fun e w' => e = .returned (.agg #[.int .i64 (stF F ⟨k, sp, a, n, hw, p, t, c, v⟩).1, .int .u64 (stF F ⟨k, sp, a, n, hw, p, t, c, v⟩).2.1]) ∧ DidX I.Fo B w s X (stF F ⟨k, sp, a, n, hw, p, t, c, v⟩).2.2 w' := I.do_ h hF.ok (Nat.le_trans hF.ob hm) ⟨k, sp, a, n, hw, p, t, c, v⟩ hr
def aw0 : Fl := ⟨[], []⟩
theorem aw0_b : FlB 0 aw0 := FlB.nil
def aw1 : Fl := (stF aw0 ⟨1, 0, 0, 0, 0, 0, 0, 0, 0⟩).2.2
theorem aw1_b : FlB 1 aw1 := aw0_b.step _
def aw2 : Fl := (stF aw1 ⟨2, 0, 8, 4, 1, 3, 0, 0, 0⟩).2.2
theorem aw2_b : FlB 2 aw2 := aw1_b.step _
def aw3 : Fl := (stF aw2 ⟨10, 0, 512, 0, 0, 0, 0, 0, 7⟩).2.2
theorem aw3_b : FlB 3 aw3 := aw2_b.step _
def aw4 : Fl := (stF aw3 ⟨7, 0, 0, 0, 0, 0, 0, 0, 0⟩).2.2
theorem aw4_b : FlB 4 aw4 := aw3_b.step _
def aw5 : Fl := (stF aw4 ⟨10, 1, 512, 0, 0, 0, 0, 0, 9⟩).2.2
theorem aw5_b : FlB 5 aw5 := aw4_b.step _
def aw6 : Fl := (stF aw5 ⟨9, 0, 512, 0, 0, 0, 0, 0, 0⟩).2.2
theorem aw6_b : FlB 6 aw6 := aw5_b.step _
def aw7 : Fl := (stF aw6 ⟨9, 1, 512, 0, 0, 0, 0, 0, 0⟩).2.2
theorem aw7_b : FlB 7 aw7 := aw6_b.step _
theorem aw1_e : (stF aw0 ⟨1, 0, 0, 0, 0, 0, 0, 0, 0⟩).1 = 0 ∧ (stF aw0 ⟨1, 0, 0, 0, 0, 0, 0, 0, 0⟩).2.1 = 0 := by constructor <;> decide +kernel
theorem aw1_i : IsRq ⟨1, 0, 0, 0, 0, 0, 0, 0, 0⟩ := by constructor <;> (dsimp only; first | (unfold Fits; omega) | omega)
theorem aw2_e : (stF aw1 ⟨2, 0, 8, 4, 1, 3, 0, 0, 0⟩).1 = 0 ∧ (stF aw1 ⟨2, 0, 8, 4, 1, 3, 0, 0, 0⟩).2.1 = 0 := by constructor <;> decide +kernel
theorem aw2_i : IsRq ⟨2, 0, 8, 4, 1, 3, 0, 0, 0⟩ := by constructor <;> (dsimp only; first | (unfold Fits; omega) | omega)
theorem aw3_e : (stF aw2 ⟨10, 0, 512, 0, 0, 0, 0, 0, 7⟩).1 = 0 ∧ (stF aw2 ⟨10, 0, 512, 0, 0, 0, 0, 0, 7⟩).2.1 = 0 := by constructor <;> decide +kernel
theorem aw3_i : IsRq ⟨10, 0, 512, 0, 0, 0, 0, 0, 7⟩ := by constructor <;> (dsimp only; first | (unfold Fits; omega) | omega)
theorem aw4_e : (stF aw3 ⟨7, 0, 0, 0, 0, 0, 0, 0, 0⟩).1 = 0 ∧ (stF aw3 ⟨7, 0, 0, 0, 0, 0, 0, 0, 0⟩).2.1 = 1 := by constructor <;> decide +kernel
theorem aw4_i : IsRq ⟨7, 0, 0, 0, 0, 0, 0, 0, 0⟩ := by constructor <;> (dsimp only; first | (unfold Fits; omega) | omega)
theorem aw5_e : (stF aw4 ⟨10, 1, 512, 0, 0, 0, 0, 0, 9⟩).1 = 0 ∧ (stF aw4 ⟨10, 1, 512, 0, 0, 0, 0, 0, 9⟩).2.1 = 0 := by constructor <;> decide +kernel
theorem aw5_i : IsRq ⟨10, 1, 512, 0, 0, 0, 0, 0, 9⟩ := by constructor <;> (dsimp only; first | (unfold Fits; omega) | omega)
theorem aw6_e : (stF aw5 ⟨9, 0, 512, 0, 0, 0, 0, 0, 0⟩).1 = 0 ∧ (stF aw5 ⟨9, 0, 512, 0, 0, 0, 0, 0, 0⟩).2.1 = 7 := by constructor <;> decide +kernel
theorem aw6_i : IsRq ⟨9, 0, 512, 0, 0, 0, 0, 0, 0⟩ := by constructor <;> (dsimp only; first | (unfold Fits; omega) | omega)
theorem aw7_e : (stF aw6 ⟨9, 1, 512, 0, 0, 0, 0, 0, 0⟩).1 = 0 ∧ (stF aw6 ⟨9, 1, 512, 0, 0, 0, 0, 0, 0⟩).2.1 = 9 := by constructor <;> decide +kernel
theorem aw7_i : IsRq ⟨9, 1, 512, 0, 0, 0, 0, 0, 0⟩ := by constructor <;> (dsimp only; first | (unfold Fits; omega) | omega)
section
variable {B : Nat} {w : World} {s : Nat} {X : Nat → Prop}
theorem FlI.awd1 (I : FlI) (h : I.Fo B w s X aw0) : Calls Tryz.prog 11 #[.pointer (some ⟨s, 0, none⟩), .agg #[.int .i64 1, .int .i64 0, .int .i64 0, .int .i64 0, .int .i64 0, .int .i64 0, .int .i64 0, .int .i64 0, .int .u64 0]] w fun e w' => e = .returned (.agg #[.int .i64 0, .int .u64 0]) ∧ DidX I.Fo B w s X aw1 w' := by
  have := I.do9 h aw0_b (by decide) 1 0 0 0 0 0 0 0 0 aw1_i
  rw [aw1_e.1, aw1_e.2] at this
  exact this
theorem FlI.awd2 (I : FlI) (h : I.Fo B w s X aw1) : Calls Tryz.prog 11 #[.pointer (some ⟨s, 0, none⟩), .agg #[.int .i64 2, .int .i64 0, .int .i64 8, .int .i64 4, .int .i64 1, .int .i64 3, .int .i64 0, .int .i64 0, .int .u64 0]] w fun e w' => e = .returned (.agg #[.int .i64 0, .int .u64 0]) ∧ DidX I.Fo B w s X aw2 w' := by
  have := I.do9 h aw1_b (by decide) 2 0 8 4 1 3 0 0 0 aw2_i
  rw [aw2_e.1, aw2_e.2] at this
  exact this
theorem FlI.awd3 (I : FlI) (h : I.Fo B w s X aw2) : Calls Tryz.prog 11 #[.pointer (some ⟨s, 0, none⟩), .agg #[.int .i64 10, .int .i64 0, .int .i64 512, .int .i64 0, .int .i64 0, .int .i64 0, .int .i64 0, .int .i64 0, .int .u64 7]] w fun e w' => e = .returned (.agg #[.int .i64 0, .int .u64 0]) ∧ DidX I.Fo B w s X aw3 w' := by
  have := I.do9 h aw2_b (by decide) 10 0 512 0 0 0 0 0 7 aw3_i
  rw [aw3_e.1, aw3_e.2] at this
  exact this
theorem FlI.awd4 (I : FlI) (h : I.Fo B w s X aw3) : Calls Tryz.prog 11 #[.pointer (some ⟨s, 0, none⟩), .agg #[.int .i64 7, .int .i64 0, .int .i64 0, .int .i64 0, .int .i64 0, .int .i64 0, .int .i64 0, .int .i64 0, .int .u64 0]] w fun e w' => e = .returned (.agg #[.int .i64 0, .int .u64 1]) ∧ DidX I.Fo B w s X aw4 w' := by
  have := I.do9 h aw3_b (by decide) 7 0 0 0 0 0 0 0 0 aw4_i
  rw [aw4_e.1, aw4_e.2] at this
  exact this
theorem FlI.awd5 (I : FlI) (h : I.Fo B w s X aw4) : Calls Tryz.prog 11 #[.pointer (some ⟨s, 0, none⟩), .agg #[.int .i64 10, .int .i64 1, .int .i64 512, .int .i64 0, .int .i64 0, .int .i64 0, .int .i64 0, .int .i64 0, .int .u64 9]] w fun e w' => e = .returned (.agg #[.int .i64 0, .int .u64 0]) ∧ DidX I.Fo B w s X aw5 w' := by
  have := I.do9 h aw4_b (by decide) 10 1 512 0 0 0 0 0 9 aw5_i
  rw [aw5_e.1, aw5_e.2] at this
  exact this
theorem FlI.awd6 (I : FlI) (h : I.Fo B w s X aw5) : Calls Tryz.prog 11 #[.pointer (some ⟨s, 0, none⟩), .agg #[.int .i64 9, .int .i64 0, .int .i64 512, .int .i64 0, .int .i64 0, .int .i64 0, .int .i64 0, .int .i64 0, .int .u64 0]] w fun e w' => e = .returned (.agg #[.int .i64 0, .int .u64 7]) ∧ DidX I.Fo B w s X aw6 w' := by
  have := I.do9 h aw5_b (by decide) 9 0 512 0 0 0 0 0 0 aw6_i
  rw [aw6_e.1, aw6_e.2] at this
  exact this
theorem FlI.awd7 (I : FlI) (h : I.Fo B w s X aw6) : Calls Tryz.prog 11 #[.pointer (some ⟨s, 0, none⟩), .agg #[.int .i64 9, .int .i64 1, .int .i64 512, .int .i64 0, .int .i64 0, .int .i64 0, .int .i64 0, .int .i64 0, .int .u64 0]] w fun e w' => e = .returned (.agg #[.int .i64 0, .int .u64 9]) ∧ DidX I.Fo B w s X aw7 w' := by
  have := I.do9 h aw6_b (by decide) 9 1 512 0 0 0 0 0 0 aw7_i
  rw [aw7_e.1, aw7_e.2] at this
  exact this
end
theorem aw7_l : aw7.L.length = 2 := by decide +kernel
end Go.Proofs.YtnppnoabhpkmkaaGreat
