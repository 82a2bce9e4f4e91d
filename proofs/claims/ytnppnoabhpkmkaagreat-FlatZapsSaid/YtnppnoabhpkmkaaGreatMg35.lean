/- The reference of spaces: a new space. -/
import Derived.Test.YtnppnoabhpkmkaaGreatMg34
namespace Go.Proofs.YtnppnoabhpkmkaaGreat
open Go.RowKit
section
variable {w w' : World} {B : Nat} {T : RfT} {F : Fl} {s s' : SpB} {S S' : Sp}
/-- A space of new parts. -/
theorem spNew {w0 V : World} {xb : Nat} {vb : Value} {P : Int → Pg} {q : Nat × Nat} {W : Int → Int} (hb : Below w0.heap.size w0 V) (hB : B ≤ w0.heap.size) (hP : Px w0.heap.size V xb vb P) (hW : WIs w0.heap.size V q W) :
    SpAt B (V.alloc (.cells #[.pointer (some ⟨xb, 0, none⟩), .slice (some ⟨q.1, 0, none⟩) 32768 q.2, .bool false] 52)) ⟨V.heap.size, xb, q, vb⟩ ⟨P, W, false⟩ ∧
    Below w0.heap.size w0 (V.alloc (.cells #[.pointer (some ⟨xb, 0, none⟩), .slice (some ⟨q.1, 0, none⟩) 32768 q.2, .bool false] 52)) ∧ ∀ k, MineS ⟨V.heap.size, xb, q, vb⟩ k → w0.heap.size ≤ k := by
  have hn := below_new V (.cells #[.pointer (some ⟨xb, 0, none⟩), .slice (some ⟨q.1, 0, none⟩) 32768 q.2, .bool false] 52)
  have hS : SpAt w0.heap.size (V.alloc (.cells #[.pointer (some ⟨xb, 0, none⟩), .slice (some ⟨q.1, 0, none⟩) 32768 q.2, .bool false] 52)) ⟨V.heap.size, xb, q, vb⟩ ⟨P, W, false⟩ :=
    ⟨Lrow.new V _ [.pointer (some ⟨xb, 0, none⟩), .slice (some ⟨q.1, 0, none⟩) 32768 q.2, .bool false], hP.call hn, hW.call hn, hb.size⟩
  exact ⟨hS.base hB, hb.trans (hn.mono hb.size), hS.low⟩
theorem Px.base {B' xa : Nat} {v : Value} {P : Int → Pg} (h : Px B w xa v P) (hb : B' ≤ B) : Px B' w xa v P := by
  obtain ⟨L, hl, ho, hp⟩ := h.own
  exact ⟨h.top, ⟨L, hl, ho.base hb, hp⟩, h.ok, Nat.le_trans hb h.lo, Nat.le_trans hb h.lw⟩
set_option maxRecDepth 100000 in
set_option maxHeartbeats 8000000 in
theorem rdo_spawn (h : RfAt B w T F) (r : Rq) (c : r.k = 1) : Calls Tryz.prog 16 #[.pointer (some ⟨T.xa, 0, none⟩), .agg (opL r).toArray] w (ResF B w T (addF F zSp)) := by
  obtain ⟨W, b0, b1, hO⟩ := opAt w r
  obtain ⟨hbW, ro, rr, hg0, hg1⟩ := hO.facts
  have o0 : W.cell? ⟨b0, 0, none⟩ = some (.int .i64 r.k) := ro.cell 0
  rw [c] at o0
  have HRR := Lib.hid rr
  have HW := Lib.hid hO
  have HG1 := Lib.hid hg1
  have hb1 : Below w.heap.size w W.drew := below_dN hbW 1
  have hD0 : RfAt B W.drew T F := h.call hb1
  have HB1 := Lib.hid hb1
  obtain ⟨R, hR⟩ : ∃ R, R = addF F zSp := ⟨_, rfl⟩
  rw [← hR]
  obtain ⟨u, v, G⟩ := R
  have hnewA := xnew_is W.drew
  obtain ⟨WB, rmkB, hwB, gB⟩ := words_make W.drew
  have hbB : Below W.drew.heap.size W.drew WB := (Below.refl _ _).grown gB (Nat.le_refl _) (fun k e => by cases e)
  have hnewB := xnew_is WB
  have hadd : ∀ (V : World) (xb : Nat) (vb : Value) (q : Nat × Nat), Below W.drew.heap.size W.drew V → Px W.drew.heap.size V xb vb (fun _ => zP) → WIs W.drew.heap.size V q (fun _ => 0) →
      Calls Tryz.prog 31 #[.pointer (some ⟨T.xa, 0, none⟩), .pointer (some ⟨V.heap.size, 0, none⟩)] (V.alloc (.cells #[.pointer (some ⟨xb, 0, none⟩), .slice (some ⟨q.1, 0, none⟩) 32768 q.2, .bool false] 52)) fun e w' => e = .returned (.agg #[.int .i64 u, .int .u64 v]) ∧ DidF B W.drew T G w' := fun V xb vb q hb hP hW => by
    obtain ⟨a1, a2, a3⟩ := spNew hb hD0.lw hP hW
    have := radd_is hD0 a2 a1 a3
    unfold ResF at this
    rw [show (⟨fun _ => zP, fun _ => 0, false⟩ : Sp) = zSp from rfl, ← hR] at this
    exact this
  have HF4 : Hid (∀ w4, DidF B W.drew T G w4 → Lrow w4 b1 33 [.int .i64 0, .int .u64 0]) := fun w4 hd => by
    obtain ⟨T4, -, -, f4, -⟩ := hd
    exact f4.row (rr.drewN 1) (hD0.other (rr.drewN 1) (by decide))
  have HNA := Lib.hid hadd
  have HWB := Lib.hid (And.intro hwB hbB)
  clear h hbW ro rr hg0 hg1 hO hD0 hR c hb1 hadd gB hwB hbB
  go_enter Tryz.func16, Tryz.ntmps16
  go_upto_region 1 with (fail)
  rw [← HW.out.1, ← HW.out.2.1, ← HW.out.2.2]
  go_upto_region 4 with (fail)
  go_region_held3 (fun _ => True)
    (trivial)
    (first | (go_at_call 32; (with_reducible refine hnewA.mono ?_); rintro e w1 ⟨xb, vb, rfl, hx1, hb1⟩; obtain ⟨W2, rmkA, hw2, g2⟩ := words_make w1; have hb2 : Below w1.heap.size w1 W2 := (Below.refl _ _).grown g2 (Nat.le_refl _) (fun k e => by cases e); have hadd := HNA.out W2 xb vb (w1.heap.size, 32768) (hb1.trans (hb2.mono hb1.size)) (hx1.call hb2) (hw2.base hb1.size); dsimp only at hadd) | (go_at_call 32; (with_reducible refine hnewB.mono ?_); rintro e w1 ⟨xb, vb, rfl, hx1, hb1⟩; have hadd := HNA.out w1 xb vb (W.heap.size, 32768) (HWB.out.2.trans (hb1.mono HWB.out.2.size)) (hx1.base HWB.out.2.size) (HWB.out.1.call hb1); dsimp only at hadd) | (go_at_call 31; (with_reducible refine hadd.mono ?_); rintro e w4 ⟨rfl, hd4⟩; have hr4 := HF4.out w4 hd4; have g0 := hr4.cell 0; have g1 := hr4.cell 1; have f0 := hr4.frozen 0; have f1 := hr4.frozen 1))
  all_goals
    go_wp2_with fail
    exact bodyPost_ret (v := .agg #[.int .i64 u, .int .u64 v]) (by simp [results, Tryz.results16, go_sem, *]) rfl ⟨rfl, (hd4.pre HB1.out).lay hr4 HG1.out _ _⟩
end
end Go.Proofs.YtnppnoabhpkmkaaGreat
