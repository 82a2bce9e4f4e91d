/- The program's objects as they lie in memory. -/
import Derived.Test.YtnpacdbkmpchnaaP0
import Derived.Test.YtnpacdbkmpchnaaM0
import Derived.Test.YtnpacdbkmpchnaaM1
namespace Go.Proofs.Ytnpacdbkmpchnaa
open Go.RowKit
theorem zeroO (w : World) : (zeroValue 54).run Try.prog w = .ok (.pointer none) w := by kernel_rfl
theorem zeroW (w : World) : (zeroValue 60).run Try.prog w = .ok (.agg #[.int .i64 0, .int .i64 0]) w := by kernel_rfl
theorem zeroF (w : World) : (zeroValue 3).run Try.prog w = .ok (.int .i64 0) w := by kernel_rfl
def TO : MapTy Try.prog := ⟨3, 61, 54, .pointer none, by kernel_rfl, by kernel_rfl, zeroO⟩
def TW : MapTy Try.prog := ⟨3, 62, 60, .agg #[.int .i64 0, .int .i64 0], by kernel_rfl, by kernel_rfl, zeroW⟩
def TF : MapTy Try.prog := ⟨3, 65, 3, .int .i64 0, by kernel_rfl, by kernel_rfl, zeroF⟩
/-- Where it lies: its struct, both maps, each object's struct and map. -/
structure ObT where
  s : Nat
  bo : Nat
  bw : Nat
  A : Int → Option (Nat × Nat)
def sayO (A : Int → Option (Nat × Nat)) : Int → Option Value := fun i => (A i).map fun q => .pointer (some ⟨q.1, 0, none⟩)
structure ObAt (B : Nat) (w : World) (T : ObT) (H : List Int) (L : List Og) : Prop where
  top : Lrow w T.s 64 [.int .i64 H.length, .map (some T.bo), .map (some T.bw)]
  obj : TO.At w T.bo H.length (sayO T.A)
  own : TW.At w T.bw L.length (sayW L)
  isA : ∀ i, (T.A i).isSome = isB H i
  row : ∀ i q, T.A i = some q → Lrow w q.1 67 [.int .i64 (H.getD i.toNat 0), .map (some q.2)]
  fra : ∀ i q, T.A i = some q → TF.At w q.2 L.length (sayF L i)
  ap1 : ∀ i j q r, T.A i = some q → T.A j = some r → q.1 = r.1 → i = j
  ap2 : ∀ i j q r, T.A i = some q → T.A j = some r → q.2 = r.2 → i = j
  apo : ∀ i q, T.A i = some q → q.2 ≠ T.bo ∧ q.2 ≠ T.bw
  apb : T.bo ≠ T.bw
  lo : B ≤ T.s ∧ B ≤ T.bo ∧ B ≤ T.bw
  loq : ∀ i q, T.A i = some q → B ≤ q.1 ∧ B ≤ q.2
def MineO (T : ObT) (k : Nat) : Prop := k = T.s ∨ k = T.bo ∨ k = T.bw ∨ ∃ i q, T.A i = some q ∧ (k = q.1 ∨ k = q.2)
def theOb (B : Nat) (w : World) (s : Nat) (X : Nat → Prop) (H : List Int) (L : List Og) : Prop := ∃ T, T.s = s ∧ X = MineO T ∧ ObAt B w T H L
def DidM (B : Nat) (w : World) (T : ObT) (H : List Int) (L : List Og) (w' : World) : Prop :=
  ∃ T', T'.s = T.s ∧ ObAt B w' T' H L ∧ Foot (MineO T) w w' ∧ ∀ k, MineO T' k → MineO T k ∨ w.heap.size ≤ k
section
variable {w w' : World} {B : Nat} {T : ObT} {H H' : List Int} {L L' : List Og}
theorem ObAt.lt (h : ObAt B w T H L) : ∀ k, MineO T k → k < w.heap.size := by
  rintro k (rfl | rfl | rfl | ⟨i, q, hq, rfl | rfl⟩)
  · exact h.top.lt
  · exact h.obj.lt
  · exact h.own.lt
  · exact (h.row i q hq).lt
  · exact (h.fra i q hq).lt
theorem ObAt.low (h : ObAt B w T H L) : ∀ k, MineO T k → B ≤ k := by
  rintro k (rfl | rfl | rfl | ⟨i, q, hq, rfl | rfl⟩)
  · exact h.lo.1
  · exact h.lo.2.1
  · exact h.lo.2.2
  · exact (h.loq i q hq).1
  · exact (h.loq i q hq).2
theorem ObAt.lw (h : ObAt B w T H L) : B ≤ w.heap.size := by have := h.lo.1; have := h.top.lt; omega
theorem ObAt.keep (h : ObAt B w T H L) (hk : ∀ k, MineO T k → w'.heap[k]? = w.heap[k]?) : ObAt B w' T H L :=
  ⟨(hk _ (Or.inl rfl)).trans h.top, h.obj.heap (hk _ (Or.inr (Or.inl rfl))), h.own.heap (hk _ (Or.inr (Or.inr (Or.inl rfl)))), h.isA,
   fun i q e => (hk _ (Or.inr (Or.inr (Or.inr ⟨i, q, e, Or.inl rfl⟩)))).trans (h.row i q e), fun i q e => (h.fra i q e).heap (hk _ (Or.inr (Or.inr (Or.inr ⟨i, q, e, Or.inr rfl⟩)))),
   h.ap1, h.ap2, h.apo, h.apb, h.lo, h.loq⟩
theorem ObAt.call (h : ObAt B w T H L) (hb : Below w.heap.size w w') : ObAt B w' T H L := h.keep fun k hk => hb.block k (h.lt k hk)
theorem ObAt.did (h : ObAt B w T H L) (hb : Below w.heap.size w w') : DidM B w T H L w' := ⟨T, rfl, h.call hb, Foot.of_below hb, fun _ e => Or.inl e⟩
theorem DidM.pre {W : World} (h : Below W.heap.size W w) (d : DidM B w T H L w') : DidM B W T H L w' := by
  obtain ⟨T', d0, d1, d2, d3⟩ := d
  exact ⟨T', d0, d1, (Foot.of_below (X := MineO T) h).trans d2 (fun _ e _ => e), fun k e => (d3 k e).imp id fun e => Nat.le_trans h.size e⟩
theorem DidM.post (d : DidM B w T H L w') {w'' : World} (h : Below w'.heap.size w' w'') : DidM B w T H L w'' := by
  obtain ⟨T', d0, d1, d2, d3⟩ := d
  exact ⟨T', d0, d1.call h, d2.trans (Foot.of_below (X := MineO T) h) (fun _ e _ => e), d3⟩
theorem DidM.dn (d : DidM B w T H L w') (n : Nat) : DidM B w T H L (w'.drewN n) := d.post (below_dN (Below.refl _ _) n)
theorem ObAt.drewN (h : ObAt B w T H L) (k : Nat) : ObAt B (w.drewN k) T H L := h.keep fun _ _ => rfl
theorem DidM.is (d : DidM B w T H L w') : DidO theOb B w T.s (MineO T) H L w' := by
  obtain ⟨T', d0, d1, d2, d3⟩ := d
  exact ⟨MineO T', ⟨T', d0, rfl, d1⟩, d2, d3⟩
/-- Rows of another type are none of its own. -/
theorem ObAt.apart (h : ObAt B w T H L) {g : Nat} {t : TypeId} {vs : List Value} (r : Lrow w g t vs) (h1 : t ≠ 64) (h2 : t ≠ 67) : ¬ MineO T g := by
  rintro (rfl | rfl | rfl | ⟨i, q, hq, rfl | rfl⟩)
  · exact r.apart h.top h1 rfl
  · exact h.obj.apart r rfl
  · exact h.own.apart r rfl
  · exact r.apart (h.row i q hq) h2 rfl
  · exact (h.fra i q hq).apart r rfl
theorem ObAt.c0 (h : ObAt B w T H L) : w.cell? ⟨T.s, 0, none⟩ = some (.int .i64 H.length) := h.top.cell 0
theorem ObAt.c1 (h : ObAt B w T H L) : w.cell? ⟨T.s, 1, none⟩ = some (.map (some T.bo)) := h.top.cell 1
theorem ObAt.c2 (h : ObAt B w T H L) : w.cell? ⟨T.s, 2, none⟩ = some (.map (some T.bw)) := h.top.cell 2
theorem ObAt.here (h : ObAt B w T H L) {i : Int} (c : isB H i = true) : ∃ q, T.A i = some q := Option.isSome_iff_exists.1 ((h.isA i).trans c)
theorem ObAt.gone (h : ObAt B w T H L) {i : Int} (c : isB H i = false) : T.A i = none := by
  have := h.isA i
  rw [c] at this
  simpa using this
theorem ObAt.is (h : ObAt B w T H L) {i : Int} {q : Nat × Nat} (e : T.A i = some q) : isB H i = true := by rw [← h.isA i, e]; rfl
/-- The looks. -/
theorem ObAt.look (h : ObAt B w T H L) {i : Int} (hi : Fits i) {q : Nat × Nat} (e : T.A i = some q) : (Instr.lookup 61 (.map (some T.bo)) (.int .i64 i) true).run Try.prog w = .ok (.tuple #[.pointer (some ⟨q.1, 0, none⟩), .bool true]) w := by
  have := h.obj.look hi true
  rw [show sayO T.A i = some (.pointer (some ⟨q.1, 0, none⟩)) by unfold sayO; rw [e]; rfl] at this
  exact this
theorem ObAt.look1 (h : ObAt B w T H L) {i : Int} (hi : Fits i) {q : Nat × Nat} (e : T.A i = some q) : (Instr.lookup 61 (.map (some T.bo)) (.int .i64 i) false).run Try.prog w = .ok (.pointer (some ⟨q.1, 0, none⟩)) w := by
  have := h.obj.look hi false
  rw [show sayO T.A i = some (.pointer (some ⟨q.1, 0, none⟩)) by unfold sayO; rw [e]; rfl] at this
  exact this
theorem ObAt.lookN (h : ObAt B w T H L) {i : Int} (hi : Fits i) (e : T.A i = none) : (Instr.lookup 61 (.map (some T.bo)) (.int .i64 i) true).run Try.prog w = .ok (.tuple #[.pointer none, .bool false]) w := by
  have := h.obj.look hi true
  rw [show sayO T.A i = none by unfold sayO; rw [e]; rfl] at this
  exact this
theorem ObAt.lookW (h : ObAt B w T H L) {f : Int} (hf : Fits f) (c : Bool) : (Instr.lookup 62 (.map (some T.bw)) (.int .i64 f) c).run Try.prog w = .ok (if c then .tuple #[(sayW L f).getD (.agg #[.int .i64 0, .int .i64 0]), .bool (sayW L f).isSome] else (sayW L f).getD (.agg #[.int .i64 0, .int .i64 0])) w := h.own.look hf c
theorem ObAt.lookF (h : ObAt B w T H L) {i : Int} {q : Nat × Nat} (e : T.A i = some q) {p : Int} (hp : Fits p) (c : Bool) : (Instr.lookup 65 (.map (some q.2)) (.int .i64 p) c).run Try.prog w = .ok (if c then .tuple #[(sayF L i p).getD (.int .i64 0), .bool (sayF L i p).isSome] else (sayF L i p).getD (.int .i64 0)) w := (h.fra i q e).look hp c
end
end Go.Proofs.Ytnpacdbkmpchnaa
