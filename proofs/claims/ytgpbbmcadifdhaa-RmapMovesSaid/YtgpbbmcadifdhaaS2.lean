/- The reference as it lies; its Spots. -/
import Derived.Test.YtgpbbmcadifdhaaS1
namespace Go.Proofs.Ytgpbbmcadifdhaa
open Go.RowKit

def EOn : Enc Try.prog On where
  enc x := [.int .i64 x.1, .int .i64 x.2.1, .int .i64 x.2.2]
  sz := 3
  el := 67
  sl := 63
  zero := .agg #[.int .i64 0, .int .i64 0, .int .i64 0]
  bytes := 24
  len _ := rfl
  one a u h := by
    simp only [List.mem_cons, List.not_mem_nil, or_false] at h
    rcases h with rfl | rfl | rfl <;> rfl
  pos := by decide
  zsz := rfl
  und := by kernel_rfl
  info := by kernel_rfl
  small := by decide
def ESp : Enc Try.prog It where
  enc x := [.int .i64 x.1, .int .i64 x.2]
  sz := 2
  el := 27
  sl := 36
  zero := .agg #[.int .i64 0, .int .i64 0]
  bytes := 16
  len _ := rfl
  one a u h := by
    simp only [List.mem_cons, List.not_mem_nil, or_false] at h
    rcases h with rfl | rfl <;> rfl
  pos := by decide
  zsz := rfl
  und := by kernel_rfl
  info := by kernel_rfl
  small := by decide
def EI : Enc Try.prog Int where
  enc x := [.int .i64 x]
  sz := 1
  el := 3
  sl := 33
  zero := .int .i64 0
  bytes := 8
  len _ := rfl
  one a u h := by
    simp only [List.mem_cons, List.not_mem_nil, or_false] at h
    rcases h with rfl
    rfl
  pos := by decide
  zsz := rfl
  und := by kernel_rfl
  info := by kernel_rfl
  small := by decide
theorem pcells_enc (l : List It) : pcells l = ESp.cells l := by
  induction l with
  | nil => rfl
  | cons x r ih => rw [Enc.cells_cons, ← ih]; rfl
theorem sp_own {B : Nat} {w : World} {v : Value} {l : List It} (h : Sp B w v l) : ESp.Own B w v l := by
  have h0 : w.ownsRow B 27 2 v l.length (pcells l) := h
  rw [pcells_enc] at h0; exact h0
theorem on_at {w : World} {g o : Nat} {x : On} (h : EOn.At w g o x) : w.cell? ⟨g, o, none⟩ = some (.int .i64 x.1) ∧ w.cell? ⟨g, o + 1, none⟩ = some (.int .i64 x.2.1) ∧ w.cell? ⟨g, o + 2, none⟩ = some (.int .i64 x.2.2) :=
  ⟨h 0 (by decide), h 1 (by decide), h 2 (by decide)⟩
/-- The reference: its struct in block xa, its list in a row. -/
structure Rx (B : Nat) (w : World) (xa : Nat) (v : Value) (L : List On) : Prop where
  top : Lrow w xa 65 [v]
  own : EOn.Own B w v L
  lo : B ≤ xa
  lw : B ≤ w.heap.size
def DidX (B : Nat) (w : World) (xa : Nat) (v : Value) (N : List On) (r : Int) (e : Ending) (w' : World) : Prop :=
  e = .returned (.int .i64 r) ∧ ∃ v', Rx B w' xa v' N ∧ Foot (fun k => k = xa) w w' ∧ (v' = v ∨ ∀ g, v'.ownBlock = some g → w.heap.size ≤ g)
section
variable {w w' : World} {B xa : Nat} {v : Value} {L : List On}
theorem Rx.keep (h : Rx B w xa v L) (hs : w.heap.size ≤ w'.heap.size) (hk : ∀ k, (k = xa ∨ v.ownBlock = some k) → k < w.heap.size → w'.heap[k]? = w.heap[k]?) : Rx B w' xa v L :=
  ⟨(hk xa (Or.inl rfl) h.top.lt).trans h.top, h.own.heap (fun g e => hk g (Or.inr e) (by obtain ⟨vs, r, _⟩ := h.own.block e; exact r.lt)), h.lo, Nat.le_trans h.lw hs⟩
theorem Rx.call (h : Rx B w xa v L) (hb : Below w.heap.size w w') : Rx B w' xa v L := h.keep hb.size fun k _ hl => hb.block k hl
theorem Rx.drewN (h : Rx B w xa v L) (k : Nat) : Rx B (w.drewN k) xa v L := h.call (below_dN (Below.refl _ _) k)
theorem Rx.c0 (h : Rx B w xa v L) : w.cell? ⟨xa, 0, none⟩ = some v := h.top.cell 0
/-- The list is laid anew. -/
theorem Rx.set (h : Rx B w xa v L) (hb : Below w.heap.size w w') {v' : Value} {N : List On} (ho : EOn.Own w.heap.size w' v' N) {r : Int} : DidX B w xa v N r (.returned (.int .i64 r)) (w'.setCell ⟨xa, 0, none⟩ v') := by
  have ht := h.top.call hb
  refine ⟨rfl, v', ⟨ht.set_ 0 v', ?_, h.lo, by simpa [World.setCell] using Nat.le_trans h.lw hb.size⟩, ?_, Or.inr fun g e => ?_⟩
  · refine (ho.base h.lw).heap fun g e => ?_
    obtain ⟨vs, r, _⟩ := ho.block e
    exact Below.heap_setCell w' _ _ g (r.apart ht (by decide))
  · exact (Foot.of_below (X := fun k => k = xa) hb).trans (Foot.grown (X := fun k => k = xa) (grown_set w' xa 0 _) rfl) (fun _ h _ => h)
  · obtain ⟨vs, _, r⟩ := ho.block e
    exact r
theorem sps_snoc (L : List On) (f : Int) {k : Nat} (h : k < L.length) : sps (L.take (k + 1)) f = if L[k].1 = f then sps (L.take k) f ++ [L[k].2] else sps (L.take k) f := by
  unfold sps
  rw [List.take_succ_eq_append_getElem h, List.filter_append, List.map_append]
  by_cases e : L[k].1 = f
  · rw [if_pos e, List.filter_cons_of_pos (by simpa using e)]; rfl
  · rw [if_neg e, List.filter_cons_of_neg (by simpa using e)]; simp
/-- Spots that a call of the reference told. -/
def ToldX (l : List It) (w : World) (e : Ending) (w' : World) : Prop := ∃ A c, e = .returned (.slice A l.length c) ∧ ESp.Own w.heap.size w' (.slice A l.length c) l ∧ Below w.heap.size w w'
set_option maxRecDepth 100000 in
set_option maxHeartbeats 2000000 in
theorem xspots_any (h : Rx B w xa v L) (hL : L.length ≤ 200) (f : Int) : Calls Try.prog 16 #[.pointer (some ⟨xa, 0, none⟩), .int .i64 f] w (ToldX (sps L f) w) := by
  obtain ⟨A, c, rfl⟩ := h.own.form
  obtain ⟨N, hN⟩ : ∃ N, N = L.length := ⟨_, rfl⟩
  have HH := Lib.hid h
  have hc1 := h.c0
  have hxl := h.top.lt
  rw [← hN] at hc1
  have HN := Lib.hid hN
  have n200 : (N : Int) ≤ 200 := by omega
  clear h
  go_enter Try.func16, Try.ntmps16
  go_wp2
  go_loopw [5, 6] (fun r i wr => ∃ (j : Nat), j ≤ N ∧ i = .int .i64 j ∧ ESp.Own w.heap.size wr r (sps (L.take j) f) ∧ Below w.heap.size w wr) (fun _ i _ => N - (RowKit.intOf i).toNat)
  case atStart => exact ⟨0, Nat.zero_le _, rfl, by simpa [sps] using Enc.Own.nil (E := ESp) _ w, Below.refl _ _⟩
  case round =>
    obtain ⟨j, hj, rfl, hcs, hb⟩ := hrel
    obtain ⟨Ar, cr, rfl⟩ := hcs.form
    have hcw : wr.cell? ⟨xa, 0, none⟩ = some (.slice A N c) := (hb.cell (p := ⟨xa, 0, none⟩) hxl).trans hc1
    by_cases hlt : j < N
    · have hjl : j < L.length := by have := HN.out; omega
      obtain ⟨g, rfl, -, hgl, -, hat⟩ := HH.out.own.some_ (by omega)
      obtain ⟨x, ex⟩ : ∃ x, x = L[j] := ⟨_, rfl⟩
      have hat := hat j hjl
      have hfs := sps_snoc L f hjl
      rw [← ex] at hat hfs
      obtain ⟨e0, e1, e2⟩ := on_at (hat.heap (w' := wr) (hb.block g hgl))
      change wr.cell? ⟨g, j * 3, none⟩ = _ at e0
      change wr.cell? ⟨g, j * 3 + 1, none⟩ = _ at e1
      change wr.cell? ⟨g, j * 3 + 2, none⟩ = _ at e2
      have hrl : (sps (L.take j) f).length ≤ 200 := by
        have := sps_len (L.take j) f
        rw [List.length_take] at this
        omega
      obtain ⟨R, hR⟩ : ∃ R, R = sps (L.take j) f := ⟨_, rfl⟩
      rw [← hR] at hcs hfs hrl ⊢
      obtain ⟨m, hm⟩ : ∃ m, m = R.length := ⟨_, rfl⟩
      obtain ⟨xf, xs, xp⟩ := x
      dsimp only at e0 e1 e2 hfs
      obtain ⟨A5, c5, W5, r5, o5, g5, -⟩ := hcs.app1 hb.size (xs, xp) (by omega) #[.int .i64 xs, .int .i64 xp] rfl
      have r5' := r5 _ rfl
      rw [← hm] at r5' o5 ⊢
      change (Builtin.append_ #[36, 36] 36 _).run Try.prog (wr.alloc (.cells _ 27)) = _ at r5'
      have HO5 := Lib.hid o5
      have HB5 : Hid (Below w.heap.size w W5) := hb.grown g5 hb.size (fun k e => by
        obtain ⟨vs, _, r⟩ := hcs.block e
        exact r)
      have HCS := Lib.hid hcs
      have HB := Lib.hid hb
      have HFS := Lib.hid hfs
      have HR := Lib.hid hR
      have HM := Lib.hid hm
      have jN : (j : Int) < N := by omega
      have j0 : (0 : Int) ≤ j := by omega
      clear hcs hb hfs hR hm hat hj hjl ex hrl hgl r5 o5 g5
      by_cases hf : xf = f
      · have hfs2 := HFS.out
        rw [if_pos hf] at hfs2
        have HF2 := Lib.hid hfs2
        clear hfs2
        go_wp2_with (at_builtin; refine wpList_append_run rfl _ _ 36 rfl (.slice Ar m cr) (.slice (some ⟨wr.heap.size, 0, none⟩) 1 1) rfl rfl r5' ?_)
        go_roundw
        case rel => exact ⟨j + 1, by omega, by go_num, by rw [HF2.out]; exact HO5.out, HB5.out⟩
        case measure => simp [RowKit.intOf]; omega
      · have hfs2 := HFS.out
        rw [if_neg hf] at hfs2
        have HF2 := Lib.hid hfs2
        clear hfs2
        go_wp2_with fail
        go_roundw
        case rel => exact ⟨j + 1, by omega, by go_num, by rw [HF2.out, HM.out]; exact HCS.out, HB.out⟩
        case measure => simp [RowKit.intOf]; omega
    · obtain rfl : j = N := by omega
      have e : L.take j = L := by rw [HN.out]; exact List.take_length
      rw [e] at hcs ⊢
      have HO := Lib.hid hcs
      have HB := Lib.hid hb
      clear hcs hb e
      go_wp2
      go_ret
      exact ⟨Ar, cr, rfl, HO.out, HB.out⟩
end
end Go.Proofs.Ytgpbbmcadifdhaa
