/- A call of both: the program and the reference come to the same, over the same list of words; and the law's own first calls come as the document says. -/
import Derived.Test.YtlenoofhognmmaaRd
namespace Go.Proofs.Ytlenoofhognmmaa
open Go.RowKit

/-- Blocks b and d alone may have turned, and what is new. -/
structure Only (w w' : World) (b d : Nat) : Prop where
  os : w'.os = w.os
  tape : w'.tape = w.tape
  output : w'.output = w.output
  size : w.heap.size ≤ w'.heap.size
  block : ∀ k, k < w.heap.size → k ≠ b → k ≠ d → w'.heap[k]? = w.heap[k]?
section
variable {w w' w'' : World} {b d : Nat}
theorem Only.refl (w : World) (b d : Nat) : Only w w b d := ⟨rfl, rfl, rfl, Nat.le_refl _, fun _ _ _ _ => rfl⟩
theorem Only.trans (h : Only w w' b d) (k : Only w' w'' b d) : Only w w'' b d :=
  ⟨k.os.trans h.os, k.tape.trans h.tape, k.output.trans h.output, Nat.le_trans h.size k.size, fun i hi h1 h2 => (k.block i (Nat.lt_of_lt_of_le hi h.size) h1 h2).trans (h.block i hi h1 h2)⟩
theorem Only.alloc (h : Only w w' b d) (o : Obj) : Only w (w'.alloc o) b d :=
  h.trans ⟨rfl, rfl, rfl, by simp, fun k hk _ _ => Below.heap_alloc _ _ _ hk⟩
theorem Only.drew (h : Only w w' b d) : Only w w'.drew b d := ⟨h.os, h.tape, h.output, h.size, h.block⟩
theorem Only.left (h : w.grownBy w' (some b)) : Only w w' b d := ⟨h.os, h.tape, h.output, h.size, fun k hk h1 _ => h.block k hk (by intro e; injection e with e; exact h1 e)⟩
theorem Only.right (h : w.grownBy w' (some d)) : Only w w' b d := ⟨h.os, h.tape, h.output, h.size, fun k hk _ h1 => h.block k hk (by intro e; injection e with e; exact h1 e)⟩
theorem Only.below {B : Nat} {W : World} (h : Below B W w) (k : Only w w' b d) (hB : B ≤ w.heap.size) (hb : B ≤ b) (hd : B ≤ d) : Below B W w' :=
  h.trans ⟨k.os, k.tape, k.output, k.size, fun i hi => k.block i (by omega) (by omega) (by omega)⟩
theorem Only.of_below (h : Below w.heap.size w w') : Only w w' b d := ⟨h.os, h.tape, h.output, h.size, fun k hk _ _ => h.block k hk⟩
theorem Row.only {g : Nat} {t : TypeId} {vs : List Value} (h : Row w g t vs) (k : Only w w' b d) (h1 : g ≠ b) (h2 : g ≠ d) : Row w' g t vs := (k.block g h.lt h1 h2).trans h
end

/-- The five fields of a call in a block. -/
theorem keepBox {v v' : World} {g b : Nat} {x1 x2 x3 x4 : Value} (h : v.cell? ⟨g, 1, none⟩ = some x1 ∧ v.cell? ⟨g, 2, none⟩ = some x2 ∧ v.cell? ⟨g, 3, none⟩ = some x3 ∧ v.cell? ⟨g, 4, none⟩ = some x4) (hg : v.grownBy v' (some b)) (hne : g ≠ b) :
    v'.cell? ⟨g, 1, none⟩ = some x1 ∧ v'.cell? ⟨g, 2, none⟩ = some x2 ∧ v'.cell? ⟨g, 3, none⟩ = some x3 ∧ v'.cell? ⟨g, 4, none⟩ = some x4 := by
  have hlt : g < v.heap.size := World.block_lt_of_cell? v _ h.1
  have hb := hg.block g hlt (by intro e; injection e with e; exact hne e)
  exact ⟨(World.cell?_of_block (a := ⟨g, 1, none⟩) hb).trans h.1, (World.cell?_of_block (a := ⟨g, 2, none⟩) hb).trans h.2.1, (World.cell?_of_block (a := ⟨g, 3, none⟩) hb).trans h.2.2.1, (World.cell?_of_block (a := ⟨g, 4, none⟩) hb).trans h.2.2.2⟩

/-- What a call comes to. -/
def doL (ws : List Int) (K A B N V : Int) : List Int := if K = 0 ∨ K = 1 then stL ws A V else if K = 2 then zeL ws A N else cpL ws A B N
theorem doL_st {ws : List Int} {K A B N V : Int} (h : K = 0 ∨ K = 1) : doL ws K A B N V = stL ws A V := by simp [doL, h]
theorem doL_ze {ws : List Int} {K A B N V : Int} (h : K = 2) : doL ws K A B N V = zeL ws A N := by subst h; simp [doL]
theorem doL_cp {ws : List Int} {K A B N V : Int} (h0 : K ≠ 0) (h1 : K ≠ 1) (h2 : K ≠ 2) : doL ws K A B N V = cpL ws A B N := by simp [doL, h0, h1, h2]

section
variable {w : World} {a b c d n : Nat} {ws : List Int}
set_option maxHeartbeats 1000000 in
theorem do_any (h : RamAt w a b 58 n ws) (hx : RamAt w c d 41 n ws) (hbd : b ≠ d) (K A B N V : Int)
    (hA : A ≤ 9223372036854775807) (hB : B ≤ 9223372036854775807) (hV0 : 0 ≤ V) (hV1 : V < 18446744073709551616) :
    Calls Try.prog 12 #[.pointer (some ⟨a, 0, none⟩), .pointer (some ⟨c, 0, none⟩), .agg #[.int .i64 K, .int .i64 A, .int .i64 B, .int .i64 N, .int .u64 V]] w fun e w' =>
      e = .returned (.bool true) ∧ RamAt w' a b 58 n (doL ws K A B N V) ∧ RamAt w' c d 41 n (doL ws K A B N V) ∧ Only w w' b d := by
  have had : a ≠ d := h.top.apart hx.row (by decide)
  have hcb : c ≠ b := hx.top.apart h.row (by decide)
  have lb := h.row.lt
  have ld := hx.row.lt
  have h0 : RamAt (w.alloc (.cells #[.int .i64 K, .int .i64 A, .int .i64 B, .int .i64 N, .int .u64 V] 34)).drew a b 58 n ws := (h.alloc _).drewN 1
  have hx0 : RamAt (w.alloc (.cells #[.int .i64 K, .int .i64 A, .int .i64 B, .int .i64 N, .int .u64 V] 34)).drew c d 41 n ws := (hx.alloc _).drewN 1
  have ho : Only w (w.alloc (.cells #[.int .i64 K, .int .i64 A, .int .i64 B, .int .i64 N, .int .u64 V] 34)).drew b d := ((Only.refl w b d).alloc _).drew
  have hbox := heap_alloc_new w (.cells #[.int .i64 K, .int .i64 A, .int .i64 B, .int .i64 N, .int .u64 V] 34)
  have hs : (w.alloc (.cells #[.int .i64 K, .int .i64 A, .int .i64 B, .int .i64 N, .int .u64 V] 34)).drew.cell? ⟨w.heap.size, 1, none⟩ = some (.int .i64 A) ∧ (w.alloc (.cells #[.int .i64 K, .int .i64 A, .int .i64 B, .int .i64 N, .int .u64 V] 34)).drew.cell? ⟨w.heap.size, 2, none⟩ = some (.int .i64 B) ∧ (w.alloc (.cells #[.int .i64 K, .int .i64 A, .int .i64 B, .int .i64 N, .int .u64 V] 34)).drew.cell? ⟨w.heap.size, 3, none⟩ = some (.int .i64 N) ∧ (w.alloc (.cells #[.int .i64 K, .int .i64 A, .int .i64 B, .int .i64 N, .int .u64 V] 34)).drew.cell? ⟨w.heap.size, 4, none⟩ = some (.int .u64 V) := by
    refine ⟨?_, ?_, ?_, ?_⟩ <;> exact cell_of_row _ _ _ _ _ _ hbox
  clear hbox
  by_cases hK : K = 0 ∨ K = 1
  · have HD := Lib.hid (doL_st (ws := ws) (A := A) (B := B) (N := N) (V := V) hK)
    rcases hK with rfl | rfl
    · go_enter Try.func12, Try.ntmps12
      go_wp2_with fail
      go_region_held3 (fun v => v.cell? ⟨w.heap.size, 1, none⟩ = some (.int .i64 A) ∧ v.cell? ⟨w.heap.size, 2, none⟩ = some (.int .i64 B) ∧ v.cell? ⟨w.heap.size, 3, none⟩ = some (.int .i64 N) ∧ v.cell? ⟨w.heap.size, 4, none⟩ = some (.int .u64 V))
        (first | exact hs | exact keepBox (by assumption) g1 (by omega) | exact keepBox (by assumption) g2 (by omega))
        (first | (go_at_call 19; refine (store_any h0 A V hV0 hV1).mono ?_; rintro e w1 ⟨rfl, h1, g1⟩; have hx1 := hx0.grown g1 (by simpa using hcb) (by simpa using hbd.symm)) | (go_at_call 22; refine (refStore_any hx1 A V hV0 hV1).mono ?_; rintro e w2 ⟨rfl, h2, g2⟩))
      go_wp2
      go_ret
      refine ⟨rfl, ?_, ?_, (ho.trans (Only.left g1)).trans (Only.right g2)⟩
      · rw [HD.out]; exact h1.grown g2 (by simpa using had) (by simpa using hbd)
      · rw [HD.out]; exact h2
    · go_enter Try.func12, Try.ntmps12
      go_wp2_with fail
      go_region_held3 (fun v => v.cell? ⟨w.heap.size, 1, none⟩ = some (.int .i64 A) ∧ v.cell? ⟨w.heap.size, 2, none⟩ = some (.int .i64 B) ∧ v.cell? ⟨w.heap.size, 3, none⟩ = some (.int .i64 N) ∧ v.cell? ⟨w.heap.size, 4, none⟩ = some (.int .u64 V))
        (first | exact hs | exact keepBox (by assumption) g1 (by omega) | exact keepBox (by assumption) g2 (by omega))
        (first | (go_at_call 19; refine (store_any h0 A V hV0 hV1).mono ?_; rintro e w1 ⟨rfl, h1, g1⟩; have hx1 := hx0.grown g1 (by simpa using hcb) (by simpa using hbd.symm)) | (go_at_call 22; refine (refStore_any hx1 A V hV0 hV1).mono ?_; rintro e w2 ⟨rfl, h2, g2⟩))
      go_wp2
      go_ret
      refine ⟨rfl, ?_, ?_, (ho.trans (Only.left g1)).trans (Only.right g2)⟩
      · rw [HD.out]; exact h1.grown g2 (by simpa using had) (by simpa using hbd)
      · rw [HD.out]; exact h2
  · have k0 : K ≠ 0 := by omega
    have k1 : K ≠ 1 := by omega
    have k0' : (K == 0) = false := by simpa using k0
    have k1' : (K == 1) = false := by simpa using k1
    by_cases hK2 : K = 2
    · have HD := Lib.hid (doL_ze (ws := ws) (A := A) (B := B) (N := N) (V := V) hK2)
      clear hK k0 k1 k0' k1'
      subst hK2
      go_enter Try.func12, Try.ntmps12
      go_wp2_with fail
      go_region_held3 (fun v => v.cell? ⟨w.heap.size, 1, none⟩ = some (.int .i64 A) ∧ v.cell? ⟨w.heap.size, 2, none⟩ = some (.int .i64 B) ∧ v.cell? ⟨w.heap.size, 3, none⟩ = some (.int .i64 N) ∧ v.cell? ⟨w.heap.size, 4, none⟩ = some (.int .u64 V))
        (first | exact hs | exact keepBox (by assumption) g1 (by omega) | exact keepBox (by assumption) g2 (by omega))
        (first | (go_at_call 20; refine (zero_any h0 A N hA).mono ?_; rintro e w1 ⟨rfl, h1, g1⟩; have hx1 := hx0.grown g1 (by simpa using hcb) (by simpa using hbd.symm)) | (go_at_call 23; refine (refZero_any hx1 A N hA).mono ?_; rintro e w2 ⟨rfl, h2, g2⟩))
      go_wp2
      go_ret
      refine ⟨rfl, ?_, ?_, (ho.trans (Only.left g1)).trans (Only.right g2)⟩
      · rw [HD.out]; exact h1.grown g2 (by simpa using had) (by simpa using hbd)
      · rw [HD.out]; exact h2
    · have k2' : (K == 2) = false := by simpa using hK2
      have HD := Lib.hid (doL_cp (ws := ws) (A := A) (B := B) (N := N) (V := V) k0 k1 hK2)
      clear hK k0 k1 hK2
      go_enter Try.func12, Try.ntmps12
      go_wp2_with fail
      go_region_held3 (fun v => v.cell? ⟨w.heap.size, 1, none⟩ = some (.int .i64 A) ∧ v.cell? ⟨w.heap.size, 2, none⟩ = some (.int .i64 B) ∧ v.cell? ⟨w.heap.size, 3, none⟩ = some (.int .i64 N) ∧ v.cell? ⟨w.heap.size, 4, none⟩ = some (.int .u64 V))
        (first | exact hs | exact keepBox (by assumption) g1 (by omega) | exact keepBox (by assumption) g2 (by omega))
        (first | (go_at_call 21; refine (copy_any h0 A B N hA hB).mono ?_; rintro e w1 ⟨rfl, h1, g1⟩; have hx1 := hx0.grown g1 (by simpa using hcb) (by simpa using hbd.symm)) | (go_at_call 24; refine (refCopy_any hx1 A B N hA hB).mono ?_; rintro e w2 ⟨rfl, h2, g2⟩))
      go_wp2
      go_ret
      refine ⟨rfl, ?_, ?_, (ho.trans (Only.left g1)).trans (Only.right g2)⟩
      · rw [HD.out]; exact h1.grown g2 (by simpa using had) (by simpa using hbd)
      · rw [HD.out]; exact h2
end
end Go.Proofs.Ytlenoofhognmmaa
