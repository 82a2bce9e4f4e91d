/- A list of calls as it lies in memory; both memories, held together; new memories by letters. -/
import Derived.Test.YtaphihoomipdaaaRg
namespace Go.Proofs.Ytaphihoomipdaaa
open Go.RowKit

/-- Five cells that are a call. -/
def IsAct (c : Int × Int × Int × Int × Int) : Prop := c.1 ≤ 9223372036854775807 ∧ c.2.1 ≤ 9223372036854775807 ∧ -9223372036854775808 ≤ c.2.1 ∧ c.2.2.1 ≤ 9223372036854775807 ∧ c.2.2.2.1 ≤ 9223372036854775807 ∧ 0 ≤ c.2.2.2.2 ∧ c.2.2.2.2 < 18446744073709551616
/-- A call as it lies from an address on. -/
structure ActAt (w : World) (p : Addr) (K A B N V : Int) : Prop where
  c0 : w.cell? p = some (.int .i64 K)
  c1 : w.cell? ⟨p.block, p.off + 1, none⟩ = some (.int .i64 A)
  c2 : w.cell? ⟨p.block, p.off + 2, none⟩ = some (.int .i64 B)
  c3 : w.cell? ⟨p.block, p.off + 3, none⟩ = some (.int .i64 N)
  c4 : w.cell? ⟨p.block, p.off + 4, none⟩ = some (.int .u64 V)
/-- A list of calls as it lies below block b. -/
def Acts (w : World) (b : Nat) (A : Option Addr) (n : Nat) : Prop :=
  0 < n → ∃ a, A = some a ∧ a.block < b ∧ ∀ i, i < n → ∃ K A B N V : Int, IsAct (K, A, B, N, V) ∧ ActAt w (a.add (i * 5)) K A B N V
theorem block_add (a : Addr) (n : Nat) : (a.add n).block = a.block := by unfold Addr.add; split <;> rfl
theorem Acts.below {w w' : World} {b n : Nat} {A : Option Addr} (h : Acts w b A n) (hb : Below b w w') : Acts w' b A n := fun hn => by
  obtain ⟨a, e, hlt, hc⟩ := h hn
  refine ⟨a, e, hlt, fun i hi => ?_⟩
  obtain ⟨K, A, B, N, V, ok, g⟩ := hc i hi
  have hp : (a.add (i * 5)).block < b := by rw [block_add]; exact hlt
  exact ⟨K, A, B, N, V, ok, (hb.cell hp).trans g.c0, (hb.cell (p := ⟨_, _, none⟩) hp).trans g.c1, (hb.cell (p := ⟨_, _, none⟩) hp).trans g.c2, (hb.cell (p := ⟨_, _, none⟩) hp).trans g.c3, (hb.cell (p := ⟨_, _, none⟩) hp).trans g.c4⟩

/-- Both memories, over one list of words, in blocks from m on. -/
structure St (W w : World) (m a b c d n : Nat) (ws : List Int) : Prop where
  r : RamAt w a b 75 n ws
  x : RamAt w c d 67 n ws
  bel : Below W.heap.size W w
  lo : W.heap.size ≤ m
  hb : m ≤ b
  hd : m ≤ d
  ne : b ≠ d
theorem St.step {W w w' : World} {m a b c d n : Nat} {ws ws' : List Int} (h : St W w m a b c d n ws) (hr : RamAt w' a b 75 n ws') (hx : RamAt w' c d 67 n ws') (ho : Only w w' b d) : St W w' m a b c d n ws' :=
  ⟨hr, hx, Only.below h.bel ho h.bel.size (Nat.le_trans h.lo h.hb) (Nat.le_trans h.lo h.hd), h.lo, h.hb, h.hd, h.ne⟩
theorem Row.step {W w w' : World} {m a b c d n g : Nat} {ws : List Int} {t : TypeId} {vs : List Value} (h : St W w m a b c d n ws) (hg : g < m) (r : Row w g t vs) (ho : Only w w' b d) : Row w' g t vs :=
  r.only ho (by have := h.hb; omega) (by have := h.hd; omega)

/-- A new memory, its blocks by letters. -/
def Made (w : World) (T : TypeId) (n : Nat) (e : Ending) (w' : World) : Prop :=
  ∃ a b, e = .returned (.tuple #[.pointer (some ⟨a, 0, none⟩), .int .i64 0]) ∧ RamAt w' a b T n (List.replicate n 0) ∧ Below w.heap.size w w' ∧ w.heap.size ≤ b
theorem made_new (f : Nat) (w : World) (h1 : 8 ≤ f) (h2 : f ≤ 1024) : Calls Try.prog 15 #[.int .i64 f] w (Made w 75 (f * 8)) :=
  (new_ok f w h1 h2).mono fun _ _ ⟨he, hr, hb, _⟩ => ⟨_, _, he, hr, hb, Nat.le_refl _⟩
theorem made_ref (f : Nat) (w : World) (h1 : 8 ≤ f) (h2 : f ≤ 1024) : Calls Try.prog 16 #[.int .i64 f] w (Made w 67 (f * 8)) :=
  (refNew_ok f w h1 h2).mono fun _ _ ⟨he, hr, hb, _⟩ => ⟨_, _, he, hr, hb, Nat.le_refl _⟩
theorem made_new16 (w : World) : Calls Try.prog 15 #[.int .i64 16] w (Made w 75 128) := made_new 16 w (by omega) (by omega)
theorem made_ref16 (w : World) : Calls Try.prog 16 #[.int .i64 16] w (Made w 67 128) := made_ref 16 w (by omega) (by omega)
/-- Two that were made one behind the other, and what was there ahead. -/
theorem st_made {W w0 w1 w2 : World} {a b c d n : Nat} (h : Below W.heap.size W w0) (h1 : RamAt w1 a b 75 n (List.replicate n 0)) (b1 : Below w0.heap.size w0 w1) (hb : w0.heap.size ≤ b)
    (h2 : RamAt w2 c d 67 n (List.replicate n 0)) (b2 : Below w1.heap.size w1 w2) (hd : w1.heap.size ≤ d) : St W w2 w0.heap.size a b c d n (List.replicate n 0) := by
  have s0 := h.size
  have s1 := b1.size
  have l1 := h1.row.lt
  exact ⟨h1.below b2 h1.top.lt h1.row.lt, h2, (h.trans (b1.mono s0)).trans (b2.mono (by omega)), s0, hb, by omega, by omega⟩
theorem St.call {W w w' : World} {m a b c d n : Nat} {ws : List Int} (h : St W w m a b c d n ws) (k : Below w.heap.size w w') : St W w' m a b c d n ws :=
  ⟨h.r.below k h.r.top.lt h.r.row.lt, h.x.below k h.x.top.lt h.x.row.lt, h.bel.trans (k.mono h.bel.size), h.lo, h.hb, h.hd, h.ne⟩
end Go.Proofs.Ytaphihoomipdaaa
