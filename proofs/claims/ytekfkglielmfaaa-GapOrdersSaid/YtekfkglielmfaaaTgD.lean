/- The program's tree as it lies; tall, room. -/
import Derived.Test.YtekfkglielmfaaaTgC
namespace Go.Proofs.Ytekfkglielmfaaa
open Go.RowKit
/-- A tree in memory: a block of eight cells for each node. -/
def NdAt (w : World) : Nd → Value → Prop
  | .nil, v => v = .pointer none
  | .node l s r, v => ∃ (b : Nat) (x y : Value), v = .pointer (some ⟨b, 0, none⟩) ∧
      Lrow w b 63 [.int .i64 s.1, .int .i64 s.2, x, y, .int .i64 (1 + max l.ht r.ht : Nat), .int .i64 (if l.isN = true then s.1 else l.fi : Nat), .int .i64 (if r.isN = true then s.2 else r.la : Nat), .int .i64 (Nd.node l s r).gp] ∧ NdAt w l x ∧ NdAt w r y
theorem NdAt.keep {w w' : World} (hk : ∀ k vs, Lrow w k 63 vs → w'.heap[k]? = w.heap[k]?) : ∀ {T : Nd} {v : Value}, NdAt w T v → NdAt w' T v
  | .nil, v, h => h
  | .node l s r, v, h => by
    obtain ⟨b, x, y, rfl, hr, h1, h2⟩ := h
    exact ⟨b, x, y, rfl, (hk b _ hr).trans hr, NdAt.keep hk h1, NdAt.keep hk h2⟩
section
variable {w w' : World} {T l r : Nd} {s : Nat × Nat} {v x y : Value}
theorem NdAt.call (h : NdAt w T v) (hb : Below w.heap.size w w') : NdAt w' T v := h.keep fun k _ hr => hb.block k hr.lt
theorem NdAt.drewN (h : NdAt w T v) (k : Nat) : NdAt (w.drewN k) T v := NdAt.keep (w := w) (w' := w.drewN k) (fun _ _ _ => rfl) h
theorem NdAt.drew (h : NdAt w T v) : NdAt w.drew T v := NdAt.keep (w := w) (w' := w.drew) (fun _ _ _ => rfl) h
theorem NdAt.foot {X : Nat → Prop} (h : NdAt w T v) (hf : Foot X w w') (hx : ∀ k, X k → ∀ vs, ¬ Lrow w k 63 vs) : NdAt w' T v := h.keep fun k vs hr => hf.keep k hr.lt fun c => hx k c vs hr
theorem NdAt.nil (w : World) : NdAt w .nil (.pointer none) := rfl
theorem NdAt.ptr (h : NdAt w T v) : (T = .nil ∧ v = .pointer none) ∨ ∃ b l s r, T = .node l s r ∧ v = .pointer (some ⟨b, 0, none⟩) ∧ b < w.heap.size := by
  cases T with
  | nil => exact Or.inl ⟨rfl, h⟩
  | node l s r =>
    obtain ⟨b, x, y, rfl, hr, -, -⟩ := h
    exact Or.inr ⟨b, l, s, r, rfl, rfl, hr.lt⟩
theorem tall_p (h : NdAt w T v) : Calls Try.prog 40 #[v] w fun e w' => e = .returned (.int .i64 (T.ht : Nat)) ∧ w' = w := by
  cases T with
  | nil =>
    obtain rfl : v = .pointer none := h
    go_enter Try.func40, Try.ntmps40
    go_wp2_with fail
    go_ret
    exact ⟨rfl, rfl⟩
  | node l s r =>
    obtain ⟨b, x, y, rfl, hr, -, -⟩ := h
    have c4 := hr.cell 4
    rw [Nd.ht_node]
    generalize 1 + max l.ht r.ht = z at c4 ⊢
    clear hr
    go_enter Try.func40, Try.ntmps40
    go_wp2_with fail
    go_ret
    exact ⟨rfl, rfl⟩
set_option maxHeartbeats 1000000 in
theorem room_p (h : NdAt w T v) (ok : OkS T.L) {a b : Int} (a0 : 0 ≤ a) (a1 : a ≤ 4096) (b0 : 0 ≤ b) (b1 : b ≤ 4096) : Calls Try.prog 32 #[v, .int .i64 a, .int .i64 b] w fun e w' => e = .returned (.int .i64 (T.rm a b)) ∧ ∃ n, w' = w.drewN n := by
  cases T with
  | nil =>
    obtain rfl : v = .pointer none := h
    have hw : IntKind.i64.wrap (b - a) = b - a := IntWalk.i64_in _ (by omega)
    have hr : (Nd.nil).rm a b = b - a := rfl
    rw [hr]
    clear hr
    go_enter Try.func32, Try.ntmps32
    go_wp2_with fail
    go_ret
    exact ⟨rfl, 0, rfl⟩
  | node l s r =>
    have g0 := Nd.gp_bd ok
    have f0 := Nd.fi_le ok
    have l0 := Nd.la_le ok
    obtain ⟨g, x, y, rfl, hr, -, -⟩ := h
    have hm : (Nd.node l s r).rm a b = max (max (((Nd.node l s r).fi : Int) - a) (Nd.node l s r).gp) (b - ((Nd.node l s r).la : Int)) := rfl
    rw [hm]
    have c5 : w.cell? ⟨g, 5, none⟩ = some (.int .i64 ((Nd.node l s r).fi : Nat)) := hr.cell 5
    have c6 : w.cell? ⟨g, 6, none⟩ = some (.int .i64 ((Nd.node l s r).la : Nat)) := hr.cell 6
    have c7 : w.cell? ⟨g, 7, none⟩ = some (.int .i64 (Nd.node l s r).gp) := hr.cell 7
    obtain ⟨zf, ezf⟩ : ∃ z : Int, z = ((Nd.node l s r).fi : Nat) := ⟨_, rfl⟩
    obtain ⟨zl, ezl⟩ : ∃ z : Int, z = ((Nd.node l s r).la : Nat) := ⟨_, rfl⟩
    have hf1 : 0 ≤ zf ∧ zf ≤ 4096 := by omega
    have hl1 : 0 ≤ zl ∧ zl ≤ 4096 := by omega
    rw [← ezf] at c5 ⊢
    rw [← ezl] at c6 ⊢
    generalize (Nd.node l s r).gp = zg at c7 g0 ⊢
    clear ezf ezl hr hm f0 l0 ok
    obtain ⟨Z, hZ⟩ : ∃ Z, Z = max (max (zf - a) zg) (b - zl) := ⟨_, rfl⟩
    rw [← hZ]
    have HZ := Lib.hid hZ
    clear hZ
    have hw1 : IntKind.i64.wrap (zf - a) = zf - a := IntWalk.i64_in _ (by omega)
    have hw2 : IntKind.i64.wrap (b - zl) = b - zl := IntWalk.i64_in _ (by omega)
    go_enter Try.func32, Try.ntmps32
    go_wp2_with fail
    go_quiet (fail)
    go_wp2_with fail
    all_goals go_ret
    all_goals exact ⟨ret_int (by have := HZ.out; omega), nq, rfl⟩
end
end Go.Proofs.Ytekfkglielmfaaa
