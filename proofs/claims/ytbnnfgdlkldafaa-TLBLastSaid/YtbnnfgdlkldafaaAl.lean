/- The reference: Drop, Put. -/
import Derived.Test.YtbnnfgdlkldafaaAk
namespace Go.Proofs.Ytbnnfgdlkldafaa
open Go.RowKit
/-- Lines that can be copied from a slice. -/
def Src (X : World) (sv : Value) (M : List Cd) : Prop := (sv = .slice none 0 0 ∧ M = []) ∨ ∃ a c, sv = .slice (some a) M.length c ∧ a.block < X.heap.size ∧ ∀ j u, (ccells M)[j]? = some u → X.cell? (a.add j) = some u
theorem block_add (a : Addr) (j : Nat) : (a.add j).block = a.block := by unfold Addr.add; split <;> rfl
theorem Src.call {X Y : World} {sv : Value} {M : List Cd} (h : Src X sv M) (hb : Below X.heap.size X Y) : Src Y sv M := by
  rcases h with h | ⟨a, c, e, hl, hc⟩
  · exact Or.inl h
  · refine Or.inr ⟨a, c, e, Nat.lt_of_lt_of_le hl hb.size, fun j u hu => ?_⟩
    rw [← hc j u hu]
    exact hb.cell (by rw [block_add]; exact hl)
theorem append_none {w : World} {b c : Nat} (ty : TypeId) : (Builtin.append_ #[35, 35] ty #[.slice (some ⟨b, 0, none⟩) 0 c, .slice none 0 0]).run Try.prog w = .ok (.slice (some ⟨b, 0, none⟩) 0 c) w := by
  obtain ⟨i0, hi0, hz0, hz1, hz2⟩ := info_parts info_cached
  simp [Builtin.append_, run_underlying cached_slice, sizeOf, typeInfo, hi0, Builtin.lenOf, Builtin.firstCells, loadCells, loadCellsFrom, storeCells]
/-- A copy in an empty slice of one's own. -/
theorem app_src {X : World} {D b : Nat} {sv : Value} {M : List Cd} (h : Cs X D (.slice (some ⟨b, 0, none⟩) 0 0) []) (hD : D ≤ X.heap.size) (hs : Src X sv M) (hl : M.length ≤ 1000) : ∃ A c X',
    (Builtin.append_ #[35, 35] 35 #[.slice (some ⟨b, 0, none⟩) 0 0, sv]).run Try.prog X = .ok (.slice A M.length c) X' ∧ Cs X' D (.slice A M.length c) M ∧ X.grownBy X' (some b) := by
  rcases hs with ⟨rfl, rfl⟩ | ⟨a, c, rfl, hl2, hc⟩
  · exact ⟨_, _, _, append_none _, h, World.grownBy.refl X _⟩
  · obtain ⟨A, c', X', h1, h2, h3, h4⟩ := app_run h hD a c M hc (by simp; omega)
    simp only [List.length_nil, Nat.zero_add, List.nil_append] at h1 h2
    exact ⟨A, c', X', h1, h2, h3⟩
theorem src_part {X : World} {g : Nat} {L : List Cd} {R : List Value} (h : Lrow X g 31 (ccells L ++ R)) (i n : Nat) (hi : i + n ≤ L.length) (c : Nat) {a : Addr} (ha : 0 < n → a = ⟨g, i * 5, none⟩) (hb : a.block = g) : Src X (.slice (some a) n c) ((L.drop i).take n) := by
  have hl : ((L.drop i).take n).length = n := by rw [List.length_take, List.length_drop]; omega
  refine Or.inr ⟨a, c, by rw [hl], by rw [hb]; exact h.lt, fun j u hu => ?_⟩
  have hj := (List.getElem?_eq_some_iff.1 hu).1
  rw [ccells_length, hl] at hj
  rw [ha (by omega), add_lit2]
  have : X.cell? ⟨g, i * 5 + j, none⟩ = (ccells L ++ R)[i * 5 + j]? := h.cell _
  rw [this, List.getElem?_append_left (by rw [ccells_length]; omega), ← List.getElem?_drop, ccells_drop]
  have e : ccells ((L.drop i).take n) = (ccells (L.drop i)).take (n * 5) := (ccells_take _ _).symm
  rw [e, List.getElem?_take_of_lt hj] at hu
  exact hu
section
variable {w w' : World} {B xa z : Nat} {v : Value} {L : List Cd}
set_option maxHeartbeats 4000000 in
set_option maxRecDepth 100000 in
theorem refDrop_any (h : Rb B w xa z v L) (hL : L.length ≤ 64) (i : Int) : Calls Try.prog 31 #[.pointer (some ⟨xa, 0, none⟩), .int .i64 i] w (DidR B w xa z v (drL L i) (.int .i64 (drE L i))) := by
  obtain ⟨A, c, rfl⟩ := h.own.form
  by_cases hin : 0 ≤ i ∧ i < L.length
  · obtain ⟨k, rfl⟩ : ∃ k : Nat, i = k := ⟨i.toNat, by omega⟩
    have hk : k < L.length := by omega
    rw [show drE L k = 0 from if_pos hin, show drL L k = L.eraseIdx k by unfold drL; rw [if_pos hin]; rfl]
    obtain ⟨g, R, rfl, -, hr, hlc, hcm, -⟩ := h.own.row (by omega)
    obtain ⟨X, hX⟩ : ∃ X, X = (w.alloc (.cells #[] 31)).drew := ⟨_, rfl⟩
    have hbX : Below w.heap.size w X := by rw [hX]; exact below_1d _ 1
    have hm : Cs X w.heap.size (.slice (some ⟨w.heap.size, 0, none⟩) 0 0) [] := by rw [hX]; exact Cs.call (Cs.made w) (below_dN (Below.refl _ _) 1)
    obtain ⟨A1, c1, X1, r1, o1, g1⟩ := app_src hm hbX.size (src_part (hr.call hbX) 0 k (by omega) c (a := ⟨g, 0, none⟩) (fun _ => by simp) rfl) (by simp; omega)
    have e1 : ((L.drop 0).take k).length = k := by rw [List.drop_zero, List.length_take]; omega
    rw [e1] at r1
    have hb1 : Below w.heap.size w X1 := hbX.grown g1 hbX.size (fun b e => by injection e with e; omega)
    have hr1 := hr.call hb1
    have hs2 := fun cc a ha hb => src_part hr1 (k + 1) (L.length - (k + 1)) (by omega) cc (a := a) ha hb
    have e2 : (L.drop (k + 1)).take (L.length - (k + 1)) = L.drop (k + 1) := by rw [← List.length_drop]; exact List.take_length
    rw [e2] at hs2
    have hlt1 : ((L.drop 0).take k) ++ L.drop (k + 1) = L.eraseIdx k := by rw [List.drop_zero, List.eraseIdx_eq_take_drop_succ]
    have hdl : (L.drop (k + 1)).length = L.length - (k + 1) := List.length_drop
    obtain ⟨a2, ha2⟩ : ∃ a2, a2 = behind g c (k + 1) := ⟨_, rfl⟩
    have hsrc : ∀ j u, (ccells (L.drop (k + 1)))[j]? = some u → X1.cell? (a2.add j) = some u := fun j u hu => by
      have hj := (List.getElem?_eq_some_iff.1 hu).1
      rw [ccells_length, hdl] at hj
      have ea : a2 = ⟨g, (k + 1) * 5, none⟩ := by rw [ha2]; unfold behind; rw [if_neg (by omega)]
      rw [ea, add_lit2]
      have : X1.cell? ⟨g, (k + 1) * 5 + j, none⟩ = (ccells L ++ R)[(k + 1) * 5 + j]? := hr1.cell _
      rw [this, List.getElem?_append_left (by rw [ccells_length]; omega), ← List.getElem?_drop, ccells_drop]
      exact hu
    obtain ⟨A2, c2, X2, r2, o2, g2, -⟩ := app_run o1 hb1.size a2 (c - (k + 1)) (L.drop (k + 1)) hsrc (by rw [e1, hdl]; omega)
    rw [e1, hdl] at r2 o2
    rw [hlt1] at o2
    have hb2 : Below w.heap.size w X2 := hb1.grown g2 hb1.size (fun b e => by
      obtain ⟨vs, _, r⟩ := own_block o1 e
      exact r)
    have HD := Lib.hid (h.set hb2 (r := .int .i64 0) o2)
    have hx1 := h.top.call hb1
    have hx2 := h.top.call hb2
    have k0 := h.c1
    have k1 : X1.cell? ⟨xa, 1, none⟩ = some (.slice (some ⟨g, 0, none⟩) L.length c) := hx1.cell 1
    have k2 : X2.cell? ⟨xa, 1, none⟩ = some (.slice (some ⟨g, 0, none⟩) L.length c) := hx2.cell 1
    have kf := hx2.frozen 1
    have hlt := h.top.lt
    have hxne : ¬ xa = w.heap.size := by omega
    obtain ⟨n, hn⟩ : ∃ n, n = L.length := ⟨_, rfl⟩
    rw [← hn] at r2 k0 k1 k2 HD hlc hk hL
    have hn' : (n : Int) ≤ 64 := by omega
    have k00 : (0 : Int) ≤ k := by omega
    have k0n : (k : Int) < n := by omega
    have hkc : k ≤ c := by omega
    have hkc1 : k + 1 ≤ c := by omega
    have hk10 : (0 : Int) ≤ (k : Int) + 1 := by omega
    have iw : IntKind.i64.wrap ((k : Int) + 1) = k + 1 := IntWalk.i64_in _ (by omega)
    have it1 : ((k : Int) + 1).toNat = k + 1 := by omega
    have hic : (k : Int) ≤ c := by omega
    have i1m : (k : Int) + 1 ≤ n := by omega
    have inc : (n : Int) ≤ c := by omega
    have hcap : c ≤ 9223372036854775807 := by unfold maxLen at hcm; omega
    have hbe : (some a2 : Option Addr) = if c = k + 1 then some ⟨g, 0, none⟩ else some ⟨g, (k + 1) * 5, none⟩ := by rw [ha2]; unfold behind; split <;> rfl
    rw [hbe] at r2
    rw [hX] at r1
    rw [← hn]
    have HN := Lib.hid hn
    clear hbe hsrc ha2 hdl hlt1 e1 e2 hs2 hr1 hb1 hb2 o1 o2 g1 g2 hm hbX hX hr h hin hx1 hx2 hn hcm
    go_enter Try.func31, Try.ntmps31
    go_wp2_with fail
    have hE : DidR B w xa z (.slice (some ⟨g, 0, none⟩) n c) (L.eraseIdx k) (.int .i64 0) (.returned (.int .i64 0)) (X2.setCell ⟨xa, 1, none⟩ (.slice A2 (k + (n - (k + 1))) c2)) := HD.out
    have HE := Lib.hid hE
    clear hE
    · by_cases hc : c = k + 1
      · rw [if_pos hc] at r2
        have hnk : n = k + 1 := by omega
        have hnk2 : n - (k + 1) = 0 := by omega
        subst hnk
        subst hc
        have hle : (k : Int) ≤ (k : Int) + 1 := by omega
        go_region_law (first | (refine step_append_run (by rfl) _ _ 35 (by rfl) (.slice (some ⟨w.heap.size, 0, none⟩) 0 0) (.slice (some ⟨g, 0, none⟩) k (k + 1)) (by simp [Act.eval, Act.put]) (by simp [Act.eval, Act.put]) r1 ?_) | (refine step_append_run (by rfl) _ _ 35 (by rfl) (.slice A1 k c1) (.slice (some ⟨g, 0, none⟩) (k + 1 - (k + 1)) (k + 1 - (k + 1))) (by simp [Act.eval, Act.put]) (by simp [Act.eval, Act.put]) r2 ?_))
        all_goals
          go_wp2_with fail
          go_ret
          have e0 : k + (k + 1 - (k + 1)) = k := by omega
          have := HE.out
          rw [e0] at this
          exact this
      · rw [if_neg hc] at r2
        have hc' : ¬ (c : Int) = (k : Int) + 1 := by omega
        go_region_law (first | (refine step_append_run (by rfl) _ _ 35 (by rfl) (.slice (some ⟨w.heap.size, 0, none⟩) 0 0) (.slice (some ⟨g, 0, none⟩) k c) (by simp [Act.eval, Act.put]) (by simp [Act.eval, Act.put]) r1 ?_) | (refine step_append_run (by rfl) _ _ 35 (by rfl) (.slice A1 k c1) (.slice (some ⟨g, (k + 1) * 5, none⟩) (n - (k + 1)) (c - (k + 1))) (by simp [Act.eval, Act.put]) (by simp [Act.eval, Act.put]) r2 ?_))
        all_goals
          go_wp2_with fail
          go_ret
          exact HE.out
  · have HL : Hid (DidR B w xa z (.slice A L.length c) (drL L i) (.int .i64 3) (.returned (.int .i64 3)) w) := by
      refine ⟨rfl, _, ?_, Foot.refl _ _, Or.inl rfl⟩
      rw [show drL L i = L from if_neg hin]; exact h
    have eE : drE L i = 3 := if_neg hin
    rw [eE]
    have k1 := h.c1
    clear eE
    by_cases h0 : i < 0
    · clear hin h
      go_enter Try.func31, Try.ntmps31
      go_wp2
      go_ret
      exact HL.out
    · have h1 : 0 ≤ i := by omega
      have h2 : (L.length : Int) ≤ i := by omega
      clear hin h h0
      go_enter Try.func31, Try.ntmps31
      go_wp2
      go_ret
      exact HL.out
end
end Go.Proofs.Ytbnnfgdlkldafaa
