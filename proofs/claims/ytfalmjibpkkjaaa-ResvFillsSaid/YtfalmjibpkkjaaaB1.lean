/- Keys of reservations: how they read as a map's keys. -/
import Derived.Test.YtfalmjibpkkjaaaB0
import Derived.Test.YtfalmjibpkkjaaaProg
namespace Go.Proofs.Ytfalmjibpkkjaaa
open Go.RowKit
theorem laid14 : laidOutB Try.prog = true := by kernel_rfl
theorem wide14 : (match Try.prog.underlying 66 with | some (.array _ _) | some (.struct _) => true | _ => false) = true := by kernel_rfl
set_option maxRecDepth 100000
theorem row14 : (66 : TypeId) < Try.prog.types.size := of_decide_eq_true (by kernel_rfl)
theorem law14 : Go.Maps.Keyed Try.prog 66 := Go.Maps.Keyed.of_law (deep_law_laid laid14 (m := 3) (by omega) row14 (by kernel_rfl) wide14)
def kvK (a : Int × Int) : Value := .agg #[.int .i64 a.1, .int .i64 a.2]
def klK (a : Int × Int) : Lit := .string (keyBytes [.int .i64 a.1, .int .i64 a.2])
theorem lits14 (n : Nat) {x y : Int} (hx : (Lit.int .i64 x).wf = true) (hy : (Lit.int .i64 y).wf = true) : Try.prog.keyLits (n + 2) 66 [.int .i64 x, .int .i64 y] = some [.int .i64 x, .int .i64 y] := by
  unfold Program.keyLits
  rw [Try.underlying66]
  have hc : Try.prog.cellsOf 66 = 2 := by kernel_rfl
  have hi : Try.prog.cellsOf 3 = 1 := by kernel_rfl
  have hl : ∀ z, (Lit.int .i64 z).wf = true → Try.prog.keyLits (n + 1) 3 [.int .i64 z] = some [.int .i64 z] := fun z hz => by
    unfold Program.keyLits
    rw [Try.underlying3]
    simp [hz]
  simp [hc, hi, hl x hx, hl y hy]
theorem key14 (a : Int × Int) (h : FitM a.1 ∧ FitM a.2) : keyOf Try.prog 66 (kvK a) = some (klK a) := by
  have hk : Try.prog.keyType 66 = true := by kernel_rfl
  have hf : (kvK a).formed Try.prog 66 = true := by kernel_rfl
  have hn : ∃ n, Try.prog.types.size + 1 = n + 2 := by
    have this : (66 : Nat) < Try.prog.types.size := row14
    generalize Try.prog.types.size = z at this
    exact ⟨z - 1, by omega⟩
  obtain ⟨n, hn⟩ := hn
  unfold keyOf
  rw [Try.underlying66]
  simp only [hk, hf, Bool.and_self, if_true]
  rw [hn, show (kvK a).cells.toList = [.int .i64 a.1, .int .i64 a.2] from rfl, lits14 n (fitM_wf h.1) (fitM_wf h.2)]
  rfl
theorem back14 (v : Value) (l : Lit) (h : keyOf Try.prog 66 v = some l) : ∃ a : Int × Int, (FitM a.1 ∧ FitM a.2) ∧ v = kvK a ∧ l = klK a := by
  obtain ⟨xs, L, rfl, h1, rfl⟩ := keyOf_top wide14 h
  have hn : ∃ n, Try.prog.types.size + 1 = n + 2 := by
    have this : (66 : Nat) < Try.prog.types.size := row14
    generalize Try.prog.types.size = z at this
    exact ⟨z - 1, by omega⟩
  obtain ⟨n, hn⟩ := hn
  rw [hn] at h1
  have h2 := h1
  unfold Program.keyLits at h1
  rw [Try.underlying66] at h1
  have hc : Try.prog.cellsOf 66 = 2 := by kernel_rfl
  have hi : Try.prog.cellsOf 3 = 1 := by kernel_rfl
  have hl : ∀ c M, Try.prog.keyLits (n + 1) 3 [c] = some M → ∃ z, (Lit.int .i64 z).wf = true ∧ c = .int .i64 z := fun c M hc => by
    unfold Program.keyLits at hc
    rw [Try.underlying3] at hc
    cases c <;> simp at hc
    rename_i q z
    obtain ⟨⟨rfl, hz⟩, _⟩ := hc
    exact ⟨z, hz, rfl⟩
  obtain ⟨l⟩ := xs
  match l, h1, h2 with
  | [c0, c1], h1, h2 =>
    cases e0 : Try.prog.keyLits (n + 1) 3 [c0] with
    | none => simp [hc, hi, e0] at h1
    | some a =>
      cases e1 : Try.prog.keyLits (n + 1) 3 [c1] with
      | none => simp [hc, hi, e0, e1] at h1
      | some b =>
        obtain ⟨x, hx, rfl⟩ := hl _ _ e0
        obtain ⟨y, hy, rfl⟩ := hl _ _ e1
        have h3 : Try.prog.keyLits (n + 2) 66 [.int .i64 x, .int .i64 y] = some L := h2
        rw [lits14 n hx hy] at h3
        injection h3 with h3
        subst h3
        exact ⟨(x, y), ⟨wf_fitM hx, wf_fitM hy⟩, rfl, rfl⟩
  | [], h1, _ => simp [hc] at h1
  | [_], h1, _ => simp [hc] at h1
  | _ :: _ :: _ :: _, h1, _ => simp [hc] at h1
end Go.Proofs.Ytfalmjibpkkjaaa
