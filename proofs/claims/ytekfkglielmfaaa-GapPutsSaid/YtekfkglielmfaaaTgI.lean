/- The program's tree: parted. -/
import Derived.Test.YtekfkglielmfaaaTgH
namespace Go.Proofs.Ytekfkglielmfaaa
open Go.RowKit
/-- parted, of a tree. -/
def PtTo (p : Nat) (T : Nd) : Prop := ∀ (w : World) (v : Value), NdAt w T v → T.bal → OkS T.L → Calls Try.prog 38 #[v, .int .i64 p] w fun e w' => ∃ oa ob A B, e = .returned (.tuple #[.pointer oa, .pointer ob]) ∧ NdAt w' A (.pointer oa) ∧ NdAt w' B (.pointer ob) ∧ (A.L = ahS p T.L ∧ B.L = bhS p T.L ∧ A.bal ∧ B.bal) ∧ Below w.heap.size w w'
theorem keep_4 {W W' : World} {b : Nat} {v0 v1 v2 v3 : Value} (hb : Below W.heap.size W W') (h : W.cell? ⟨b, 0, none⟩ = some v0 ∧ W.cell? ⟨b, 1, none⟩ = some v1 ∧ W.cell? ⟨b, 2, none⟩ = some v2 ∧ W.cell? ⟨b, 3, none⟩ = some v3) : W'.cell? ⟨b, 0, none⟩ = some v0 ∧ W'.cell? ⟨b, 1, none⟩ = some v1 ∧ W'.cell? ⟨b, 2, none⟩ = some v2 ∧ W'.cell? ⟨b, 3, none⟩ = some v3 :=
  ⟨keep_cell hb h.1, keep_cell hb h.2.1, keep_cell hb h.2.2.1, keep_cell hb h.2.2.2⟩
section
variable {w w' W W' : World} {T l r : Nd} {s : Nat × Nat} {v x y : Value} {p : Nat}
theorem parted_n : PtTo p .nil := by
  intro w v h _ _
  obtain rfl : v = .pointer none := h
  go_enter Try.func38, Try.ntmps38
  go_wp2_with fail
  go_ret2
  exact ⟨none, none, .nil, .nil, rfl, rfl, rfl, ⟨rfl, rfl, trivial, trivial⟩, Below.refl _ _⟩
set_option maxHeartbeats 4000000 in
set_option maxRecDepth 100000 in
theorem parted_l (ih : PtTo p l) (hp : p ≤ s.1) : PtTo p (.node l s r) := by
  intro w v h hb ok
  obtain ⟨b, rfl⟩ := h.open_
  obtain ⟨ol, or, nl, nr, c0, c1, c2, c3, -⟩ := h.cells
  obtain ⟨okl, okr, oks, -, -⟩ := ok.nd
  have hb0 := Nd.bal_node.1 hb
  have bl := hb0.1
  have br := hb0.2.1
  have hpp := part_left ok hp
  have okB : ∀ B : Nd, B.L = bhS p l.L → OkS (B.L ++ s :: r.L) := fun B e => by rw [e, ← hpp.2]; exact ok.behind p
  have FIN : Hid (∀ A B T : Nd, A.L = ahS p l.L → B.L = bhS p l.L → LvOk B s r T → A.L = ahS p (Nd.node l s r).L ∧ T.L = bhS p (Nd.node l s r).L) := fun A B T e1 e2 h => ⟨by rw [e1, hpp.1], by rw [h.L, e2, hpp.2]⟩
  have hPl := ih w _ nl bl okl
  have g1 : (p : Int) ≤ s.1 := by omega
  have HN := Lib.hid nr
  have hs : w.cell? ⟨b, 0, none⟩ = some (.int .i64 s.1) ∧ w.cell? ⟨b, 1, none⟩ = some (.int .i64 s.2) ∧ w.cell? ⟨b, 2, none⟩ = some (.pointer ol) ∧ w.cell? ⟨b, 3, none⟩ = some (.pointer or) := ⟨c0, c1, c2, c3⟩
  have HS := Lib.hid hs
  clear ih hp h hb ok okl okr oks hb0 hpp bl nl nr hs
  obtain ⟨s1, s2⟩ := s
  dsimp only at *
  go_enter Try.func38, Try.ntmps38
  go_wp2_with (first | (go_at_call 38; (with_reducible refine hPl.mono ?_); rintro e w1 ⟨oa, ob, A, B, rfl, nA, nB, ⟨eA, eB, bA, bB⟩, b1⟩; clear c0 c1 c2 c3 hPl) | fail)
  have hs := keep_4 b1 HS.out
  have c_1 := joined_w nB (HN.out.call b1) bB br (okB _ eB)
  go_upto_region 5 with (fail)
  go_region_held3 (fun v => v.cell? ⟨b, 0, none⟩ = some (.int .i64 s1) ∧ v.cell? ⟨b, 1, none⟩ = some (.int .i64 s2) ∧ v.cell? ⟨b, 2, none⟩ = some (.pointer ol) ∧ v.cell? ⟨b, 3, none⟩ = some (.pointer or))
    (first | exact hs | exact hsa)
    (first | (go_at_call 39; (with_reducible refine (c_1 _ ?_).mono ?_); (focus exact below_dN (Below.refl _ _) _); rintro e wa ⟨ga, Ta, rfl, nT, hT, ba0, ba⟩; have hsa := keep_4 ba0 hs) | fail)
  all_goals
    go_wp2_with fail
    go_ret2
    have hf := FIN.out _ _ _ eA eB hT
    exact ⟨oa, _, A, Ta, rfl, nA.call ba, nT, ⟨hf.1, hf.2, bA, hT.bal⟩, b1.trans (ba.mono b1.size)⟩
set_option maxHeartbeats 4000000 in
set_option maxRecDepth 100000 in
theorem parted_r (ih : PtTo p r) (hp : s.2 ≤ p) : PtTo p (.node l s r) := by
  intro w v h hb ok
  obtain ⟨b, rfl⟩ := h.open_
  obtain ⟨ol, or, nl, nr, c0, c1, c2, c3, -⟩ := h.cells
  obtain ⟨okl, okr, oks, -, -⟩ := ok.nd
  have hb0 := Nd.bal_node.1 hb
  have bl := hb0.1
  have br := hb0.2.1
  have hpp := part_right ok hp
  have okB : ∀ A : Nd, A.L = ahS p r.L → OkS (l.L ++ s :: A.L) := fun A e => by rw [e, ← hpp.1]; exact ok.ahead p
  have FIN : Hid (∀ A B T : Nd, A.L = ahS p r.L → B.L = bhS p r.L → LvOk l s A T → T.L = ahS p (Nd.node l s r).L ∧ B.L = bhS p (Nd.node l s r).L) := fun A B T e1 e2 h => ⟨by rw [h.L, e1, hpp.1], by rw [e2, hpp.2]⟩
  have hPr := ih w _ nr br okr
  have g1 : ¬ (p : Int) ≤ s.1 := by omega
  have g2 : (s.2 : Int) ≤ p := by omega
  have HN := Lib.hid nl
  have hs : w.cell? ⟨b, 0, none⟩ = some (.int .i64 s.1) ∧ w.cell? ⟨b, 1, none⟩ = some (.int .i64 s.2) ∧ w.cell? ⟨b, 2, none⟩ = some (.pointer ol) ∧ w.cell? ⟨b, 3, none⟩ = some (.pointer or) := ⟨c0, c1, c2, c3⟩
  have HS := Lib.hid hs
  clear ih hp h hb ok okl okr oks hb0 hpp br nl nr hs
  obtain ⟨s1, s2⟩ := s
  dsimp only at *
  go_enter Try.func38, Try.ntmps38
  go_wp2_with (first | (go_at_call 38; (with_reducible refine hPr.mono ?_); rintro e w1 ⟨oa, ob, A, B, rfl, nA, nB, ⟨eA, eB, bA, bB⟩, b1⟩; clear c0 c1 c2 c3 hPr) | fail)
  have hs := keep_4 b1 HS.out
  have c_1 := joined_w (HN.out.call b1) nA bl bA (okB _ eA)
  go_upto_region 8 with (fail)
  go_region_held3 (fun v => v.cell? ⟨b, 0, none⟩ = some (.int .i64 s1) ∧ v.cell? ⟨b, 1, none⟩ = some (.int .i64 s2) ∧ v.cell? ⟨b, 2, none⟩ = some (.pointer ol) ∧ v.cell? ⟨b, 3, none⟩ = some (.pointer or))
    (first | exact hs | exact hsa)
    (first | (go_at_call 39; (with_reducible refine (c_1 _ ?_).mono ?_); (focus exact below_dN (Below.refl _ _) _); rintro e wa ⟨ga, Ta, rfl, nT, hT, ba0, ba⟩; have hsa := keep_4 ba0 hs) | fail)
  all_goals
    go_wp2_with fail
    go_ret2
    have hf := FIN.out _ _ _ eA eB hT
    exact ⟨_, ob, Ta, B, rfl, nT, nB.call ba, ⟨hf.1, hf.2, hT.bal, bB⟩, b1.trans (ba.mono b1.size)⟩
set_option maxHeartbeats 4000000 in
set_option maxRecDepth 100000 in
theorem parted_m (h1 : s.1 < p) (h2 : p < s.2) : PtTo p (.node l s r) := by
  intro w v h hb ok
  obtain ⟨b, rfl⟩ := h.open_
  obtain ⟨ol, or, nl, nr, c0, c1, c2, c3, -⟩ := h.cells
  obtain ⟨okl, okr, oks, -, -⟩ := ok.nd
  have hb0 := Nd.bal_node.1 hb
  have bl := hb0.1
  have br := hb0.2.1
  have hpp := part_mid ok h1 h2
  have okA : OkS (l.L ++ (s.1, p) :: Nd.nil.L) := by have := ok.ahead p; rw [hpp.1] at this; exact this
  have okB : OkS (Nd.nil.L ++ (p, s.2) :: r.L) := by have := ok.behind p; rw [hpp.2] at this; exact this
  have FIN : Hid (∀ A B : Nd, LvOk l (s.1, p) .nil A → LvOk .nil (p, s.2) r B → A.L = ahS p (Nd.node l s r).L ∧ B.L = bhS p (Nd.node l s r).L) := fun A B h h' => ⟨by rw [h.L, hpp.1]; rfl, by rw [h'.L, hpp.2]; rfl⟩
  have g1 : ¬ (p : Int) ≤ s.1 := by omega
  have g2 : ¬ (s.2 : Int) ≤ p := by omega
  have c_1 := joined_w nl (NdAt.nil w) bl trivial okA
  have c_2 := joined_w (NdAt.nil w) nr trivial br okB
  have hs : w.cell? ⟨b, 0, none⟩ = some (.int .i64 s.1) ∧ w.cell? ⟨b, 1, none⟩ = some (.int .i64 s.2) ∧ w.cell? ⟨b, 2, none⟩ = some (.pointer ol) ∧ w.cell? ⟨b, 3, none⟩ = some (.pointer or) := ⟨c0, c1, c2, c3⟩
  clear h1 h2 h hb ok okl okr oks hb0 hpp br nl nr okA okB bl
  obtain ⟨s1, s2⟩ := s
  dsimp only at *
  go_enter Try.func38, Try.ntmps38
  go_upto_region 9 with (fail)
  go_region_held3 (fun v => v.cell? ⟨b, 0, none⟩ = some (.int .i64 s1) ∧ v.cell? ⟨b, 1, none⟩ = some (.int .i64 s2) ∧ v.cell? ⟨b, 2, none⟩ = some (.pointer ol) ∧ v.cell? ⟨b, 3, none⟩ = some (.pointer or))
    (first | exact hs | exact hsa | exact hsb)
    (first | (go_at_call 39; (with_reducible refine (c_1 _ ?_).mono ?_); (focus exact below_dN (Below.refl _ _) _); rintro e wa ⟨ga, Ta, rfl, nA, hA, ba0, ba⟩; have hsa := keep_4 ba0 hs) | (go_at_call 39; (with_reducible refine (c_2 _ ?_).mono ?_); (focus exact ba); rintro e wb ⟨gb, Tb, rfl, nB, hB, bb0, bb⟩; have hsb := keep_4 bb0 hsa) | fail)
  all_goals
    go_wp2_with fail
    go_ret2
    have hf := FIN.out _ _ hA hB
    exact ⟨_, _, Ta, Tb, rfl, nA.call bb0, nB, ⟨hf.1, hf.2, hA.bal, hB.bal⟩, bb⟩
theorem parted_to (p : Nat) : ∀ T, PtTo p T
  | .nil => parted_n
  | .node l s r => by
    by_cases c1 : p ≤ s.1
    · exact parted_l (parted_to p l) c1
    · by_cases c2 : s.2 ≤ p
      · exact parted_r (parted_to p r) c2
      · exact parted_m (by omega) (by omega)
end
end Go.Proofs.Ytekfkglielmfaaa
