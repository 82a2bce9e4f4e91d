/- The walk of the law TableNone. -/
import Derived.Test.YtnlimecbbockoaaMg46
import Derived.Test.YtnlimecbbockoaaMg47
namespace Go.Proofs.Ytnlimecbbockoaa
open Go.RowKit
/-- The state between two calls: the law's argument in its box, its world. -/
structure NoAt (W w : World) (g : Nat) (cs : List Value) (s : Seat) (v : Value) (d : Nat) : Prop where
  arg : Row w g 52 cs
  bel : Below g W w
  tab : Tab w s v k0 (bagL 2) [414, 415]
  wld : ∃ y0 y1 y2, Row w d 41 [.pointer (some ⟨s.x, 0, none⟩), .pointer (some ⟨s.a, 0, none⟩), y0, .int .i64 415, .int .i64 414, y1, y2, .int .i64 2]
  bd : g ≤ s.b ∧ g ≤ s.y ∧ g ≤ s.m
section
variable {W w w' : World} {g d : Nat} {cs : List Value} {s : Seat} {v v' : Value}
theorem NoAt.call (h : NoAt W w g cs s v d) (hb : Below w.heap.size w w') : NoAt W w' g cs s v d := by
  obtain ⟨y0, y1, y2, hw⟩ := h.wld
  exact ⟨h.arg.below hb h.arg.lt, h.bel.trans (hb.mono (Nat.le_of_lt h.arg.lt)), h.tab.call hb, ⟨y0, y1, y2, hw.below hb hw.lt⟩, h.bd⟩
theorem NoAt.mv (h : NoAt W w g cs s v d) (hT : Tab w' s v' k0 (bagL 2) [414, 415]) (hM : Mv s v w v' w') : NoAt W w' g cs s v' d := by
  obtain ⟨y0, y1, y2, hw⟩ := h.wld
  exact ⟨h.tab.row hM h.arg (by decide) (by decide) (by decide), h.bel.trans (h.tab.below hM (Nat.le_of_lt h.arg.lt) h.bd.1 h.bd.2.1 h.bd.2.2), hT, ⟨y0, y1, y2, h.tab.row hM hw (by decide) (by decide) (by decide)⟩, h.bd⟩
theorem NoAt.cells {kd r pg o n f : Int} {p wr h k u dd : Bool} (x : NoAt W w g [.int .i64 kd, .int .i64 r, .int .i64 pg, .int .i64 o, .int .i64 n, .int .i64 f, .bool p, .bool wr, .bool h, .bool k, .bool u, .bool dd] s v d) :
    w.cell? ⟨g, 1, none⟩ = some (.int .i64 r) ∧ w.cell? ⟨g, 2, none⟩ = some (.int .i64 pg) ∧ w.cell? ⟨g, 3, none⟩ = some (.int .i64 o) ∧ w.cell? ⟨g, 5, none⟩ = some (.int .i64 f) ∧ w.cell? ⟨g, 6, none⟩ = some (.bool p) ∧ w.cell? ⟨g, 7, none⟩ = some (.bool wr) ∧ w.cell? ⟨g, 8, none⟩ = some (.bool h) ∧ w.cell? ⟨g, 9, none⟩ = some (.bool k) ∧ w.cell? ⟨g, 10, none⟩ = some (.bool u) ∧ w.cell? ⟨g, 11, none⟩ = some (.bool dd) ∧
    w.cell? ⟨d, 0, none⟩ = some (.pointer (some ⟨s.x, 0, none⟩)) ∧ w.cell? ⟨d, 3, none⟩ = some (.int .i64 415) ∧ w.cell? ⟨d, 4, none⟩ = some (.int .i64 414) := by
  obtain ⟨y0, y1, y2, hw⟩ := x.wld
  exact ⟨x.arg.cell 1, x.arg.cell 2, x.arg.cell 3, x.arg.cell 5, x.arg.cell 6, x.arg.cell 7, x.arg.cell 8, x.arg.cell 9, x.arg.cell 10, x.arg.cell 11, hw.cell 0, hw.cell 3, hw.cell 4⟩
theorem no_map (h : Tab w s v k0 (bagL 2) [414, 415]) {r pg o f : Int} (p wr hh k u dd : Bool) (hr : Fits r) (hp : Fits pg) (hf : Fits f) (hn : r ∉ [414, 415]) : Calls Try.prog 18 #[.pointer (some ⟨s.x, 0, none⟩), .int .i64 r, .int .i64 pg, .int .i64 o, .agg #[.int .i64 f, .bool p, .bool wr, .bool hh, .bool k, .bool u, .bool dd]] w fun e w' => e = .returned (.int .i64 3) ∧ ∃ v', Tab w' s v' k0 (bagL 2) [414, 415] ∧ Mv s v w v' w' := by
  have hl : lfE [414, 415] r pg o f p wr (decide (0 < o)) k u dd = 3 := by
    unfold lfE plE
    rw [if_neg hn, if_neg (by omega)]
  have hm : mapE k0 (bagL 2) [414, 415] r pg o f p wr k u dd = 3 := by
    unfold mapE
    rw [hl, if_neg (by omega)]
  refine (tmap_any h (bag_ok (by omega)) (by rw [bagL_len]; omega) r pg o f p wr hh k u dd hr hp hf).mono ?_
  rintro e w' ⟨rfl, v', h1, -, h3⟩
  exact ⟨by rw [hm], v', h1 (by rw [hm]; omega), h3⟩
theorem no_cnt (h : Tab w s v k0 (bagL 2) [414, 415]) {r : Int} (hr : Fits r) (hn : r ∉ [414, 415]) : Calls Try.prog 14 #[.pointer (some ⟨s.x, 0, none⟩), .int .i64 r] w fun e w' => e = .returned (.int .i64 0) ∧ Below w.heap.size w w' := by
  refine (count_any h r hr (fun e => absurd e hn) (by simp [h.ram.len])).mono ?_
  rintro e w' ⟨rfl, hb⟩
  exact ⟨by unfold thT; rw [if_neg hn]; rfl, hb⟩
end
section
variable {W w w' : World} {g d : Nat} {s : Seat} {v v' : Value}
theorem NoAt.keep {kd r pg o n f : Int} {p wr h k u dd : Bool} (x : NoAt W w g [.int .i64 kd, .int .i64 r, .int .i64 pg, .int .i64 o, .int .i64 n, .int .i64 f, .bool p, .bool wr, .bool h, .bool k, .bool u, .bool dd] s v d) :
    w.cell? ⟨g, 1, none⟩ = some (.int .i64 r) ∧ w.cell? ⟨g, 2, none⟩ = some (.int .i64 pg) ∧ w.cell? ⟨g, 3, none⟩ = some (.int .i64 o) ∧ w.cell? ⟨g, 5, none⟩ = some (.int .i64 f) ∧ w.cell? ⟨g, 6, none⟩ = some (.bool p) ∧ w.cell? ⟨g, 7, none⟩ = some (.bool wr) ∧ w.cell? ⟨g, 8, none⟩ = some (.bool h) ∧ w.cell? ⟨g, 9, none⟩ = some (.bool k) ∧ w.cell? ⟨g, 10, none⟩ = some (.bool u) ∧ w.cell? ⟨g, 11, none⟩ = some (.bool dd) ∧
    w.cell? ⟨d, 0, none⟩ = some (.pointer (some ⟨s.x, 0, none⟩)) := by
  obtain ⟨y0, y1, y2, hw⟩ := x.wld
  exact ⟨x.arg.cell 1, x.arg.cell 2, x.arg.cell 3, x.arg.cell 5, x.arg.cell 6, x.arg.cell 7, x.arg.cell 8, x.arg.cell 9, x.arg.cell 10, x.arg.cell 11, hw.cell 0⟩
end
end Go.Proofs.Ytnlimecbbockoaa
