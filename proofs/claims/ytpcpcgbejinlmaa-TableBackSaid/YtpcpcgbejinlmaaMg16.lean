/- The reference of package table: how many tables there are, and would be needed. -/
import Derived.Test.YtpcpcgbejinlmaaMg15
import Derived.Test.YtpcpcgbejinlmaaMg02
namespace Go.Proofs.Ytpcpcgbejinlmaa
open Go.RowKit
section
variable {w : World} {C x : Nat} {v : Value} {L : List Mp}
set_option maxHeartbeats 1000000 in
theorem count8_any (h : RfT w C x v L) : Calls Try.prog 77 #[.pointer (some ⟨x, 0, none⟩)] w fun e w' => (∃ k : Nat, e = .returned (.int .i64 k) ∧ k ≤ 20000) ∧ Below w.heap.size w w' := by
  obtain ⟨A, c, rfl⟩ := h.ms.form
  have hc : w.cell? ⟨x, 0, none⟩ = some (.slice A L.length c) := h.top.cell 0
  have HP := Lib.hid (prefixes_any h.ms h.ok (by have := h.len; omega))
  have HL := Lib.hid h.len
  clear h
  go_enter Try.func77, Try.ntmps77
  go_wp2_with fail
  refine HP.out.mono ?_
  rintro e w' ⟨A', n', c', rfl, hn, hb⟩
  have HB := Lib.hid hb
  have hn2 : n' ≤ 15000 := by have := HL.out; omega
  have e1 : (1 : Int) + (n' : Int) = ((n' + 1 : Nat) : Int) := by omega
  have E1 := Lib.hid e1
  clear hb hc hn e1
  go_wp2_with fail
  go_ret
  exact ⟨⟨n' + 1, ret_int E1.out, by omega⟩, HB.out⟩
theorem with_ok {L M : List Mp} {x : Mp} (h : ∀ m ∈ L, MK m) (hx : MK x) (hM : M.length = L.length + 1 ∧ ∀ m ∈ M, m ∈ L ∨ m = x) : ∀ m ∈ M, MK m := fun m hm => by
  rcases hM.2 m hm with k | k
  · exact h m k
  · rw [k]; exact hx
theorem with_len {L M : List Mp} {x : Mp} (h : L.length ≤ 5000) (hM : M.length = L.length + 1 ∧ ∀ m ∈ M, m ∈ L ∨ m = x) : M.length ≤ 5001 := by have := hM.1; omega
theorem sub_in {a b c d : Nat} (h : a ≤ 3 * c) (k : b ≤ 3 * d) (hc : c ≤ 5001) (hd : d ≤ 5001) : IntKind.i64.wrap ((a : Int) - (b : Int)) = (a : Int) - (b : Int) := IntWalk.i64_in _ (by omega)
theorem sub_bd {a b c d : Nat} (h : a ≤ 3 * c) (k : b ≤ 3 * d) (hc : c ≤ 5001) (hd : d ≤ 5001) : -20000 ≤ (a : Int) - (b : Int) ∧ (a : Int) - (b : Int) ≤ 20000 := by omega
def Needs (w : World) (g o : Int) (e : Ending) (w' : World) : Prop := ∃ n er : Int, e = .returned (.tuple #[.int .i64 n, .int .i64 er]) ∧ (er = 0 → wrO g o = 0 ∧ -20000 ≤ n ∧ n ≤ 20000) ∧ Below w.heap.size w w'
set_option maxRecDepth 100000 in
set_option maxHeartbeats 2000000 in
theorem need8_any (h : RfT w C x v L) (g o : Int) : Calls Try.prog 85 #[.pointer (some ⟨x, 0, none⟩), .int .i64 g, .int .i64 o] w (Needs w g o) := by
  by_cases hw : wrO g o = 0
  · obtain ⟨ho, hg0, hg1, hev⟩ := wrO_ok hw
    have hsz := szO_pos o
    obtain ⟨sz, esz⟩ : ∃ sz : Nat, szO o = sz := ⟨(szO o).toNat, by omega⟩
    have hsz64 : sz ≤ 64 := by omega
    have HX : Hid (MK ⟨g, o, 0, false, false, false, false, false, false⟩) := ⟨hg0, hg1, ho, hev⟩
    have H := Lib.hid h
    have HS := Lib.hid esz
    have HW := Lib.hid hw
    clear h hev ho hsz esz
    go_enter Try.func85, Try.ntmps85
    go_wp2_with fail
    refine (wrong8_any g o _).mono ?_
    rw [hw]
    rintro e w' ⟨rfl, rfl⟩
    go_wp2_with fail
    go_loopw [9] (fun i wr => ∃ k nd : Nat, k ≤ sz ∧ i = .int .i64 k ∧ wr = w.drewN nd) (fun i _ => sz - (intOf i).toNat)
    case atStart => exact ⟨0, 0, Nat.zero_le _, rfl, rfl⟩
    case round =>
      obtain ⟨k, nd, hk, rfl, rfl⟩ := hrel
      have H1 := Lib.hid (H.out.call (drewN_b (Below.refl _ _) nd))
      have HB1 := Lib.hid (drewN_b (Below.refl w.heap.size w) nd)
      obtain ⟨w1, ew⟩ : ∃ w1, w1 = w.drewN nd := ⟨_, rfl⟩
      rw [← ew] at H1 HB1 ⊢
      have HEW := Lib.hid ew
      clear ew
      have hq : ∀ W : World, Calls Try.prog 79 #[.int .i64 o] W fun e w' => e = .returned (.int .i64 sz) ∧ W = w' := fun W => by rw [← HS.out]; exact size8_any o W
      by_cases hlt : k < sz
      · go_wp2_with (go_at_call 79; refine (hq _).mono ?_; rintro e w' ⟨rfl, rfl⟩)
        refine (holds_is H1.out (g + (k : Int)) (by omega) (by omega)).mono ?_
        rintro e w' ⟨rfl, m, rfl⟩
        rcases ho_found L (g + (k : Int)) with hf | ⟨z, hf, -, -⟩
        · rw [hf]
          clear hf
          go_wp2_with fail
          go_roundw
          case rel => exact ⟨k + 1, nd + m, by omega, by go_num, by rw [HEW.out, drewN_add]⟩
          case measure => simp [intOf]; omega
        · rw [hf]
          clear hf
          go_wp2_with fail
          go_ret2
          exact ⟨0, 7, rfl, fun h => by omega, drewN_b HB1.out m⟩
      · go_wp2_with (go_at_call 79; refine (hq _).mono ?_; rintro e w' ⟨rfl, rfl⟩)
        obtain ⟨A, c, rfl⟩ := H1.out.ms.form
        have hlt1 : x < w1.drew.heap.size := H1.out.top.lt
        have hsz1 : w.heap.size ≤ w1.drew.heap.size := HB1.out.size
        have hs : w1.drew.cell? ⟨x, 0, none⟩ = some (.slice A L.length c) := H1.out.top.cell 0
        have hL := H1.out.len
        have hok := H1.out.ok
        have hm1 : Ms w1.drew C (.slice A L.length c) L := H1.out.ms
        have hL1 : L.length ≤ 5001 := by omega
        go_region_held3 (fun v => v.cell? ⟨x, 0, none⟩ = some (.slice A L.length c)) (first | exact hs | exact hs2 | exact hs3 | exact hs4) (first | (go_at_call 83; refine (with_any hm1 hok hL ⟨g, o, 0, false, false, false, false, false, false⟩).mono ?_; rintro e w2 ⟨v2, M, rfl, m2, hM, b2⟩; obtain ⟨A2, c2, rfl⟩ := m2.form; have hs2 := (b2.cell (p := ⟨x, 0, none⟩) hlt1).trans hs; have hok2 := with_ok hok HX.out hM; have hML := with_len hL hM; clear hM; have hm2 := hm1.call b2) | (go_at_call 90; with_reducible refine (prefixes_any m2 hok2 hML).mono ?_; rintro e w3 ⟨A3, n3, c3, rfl, hn3, b3⟩; have hs3 := (b3.cell (p := ⟨x, 0, none⟩) (Nat.lt_of_lt_of_le hlt1 b2.size)).trans hs2; have hm3 := hm2.call b3) | (go_at_call 90; with_reducible refine (prefixes_any hm3 hok hL1).mono ?_; rintro e w4 ⟨A4, n4, c4, rfl, hn4, b4⟩; have hwr := sub_in hn3 hn4 hML hL1; have hbd := sub_bd hn3 hn4 hML hL1; have hs4 := (b4.cell (p := ⟨x, 0, none⟩) (Nat.lt_of_lt_of_le hlt1 (Nat.le_trans b2.size b3.size))).trans hs3))
        all_goals
          have HBD := Lib.hid hbd
          have HB4 := Lib.hid (((HB1.out.drew.trans (b2.mono hsz1)).trans (b3.mono (Nat.le_trans hsz1 b2.size))).trans (b4.mono (Nat.le_trans hsz1 (Nat.le_trans b2.size b3.size))))
          clear hbd hs hs2 hs3 hs4 hm1 hm2 hm3 m2 b2 b3 b4 hok hok2 hwr
          go_wp2_with fail
          go_ret2
          exact ⟨_, 0, rfl, fun _ => ⟨HW.out, HBD.out⟩, HB4.out⟩
  · have hwn : (wrO g o != 0) = true := by simpa using hw
    go_enter Try.func85, Try.ntmps85
    go_wp2_with (go_at_call 60; refine (wrong8_any g o _).mono ?_; rintro e w' ⟨rfl, rfl⟩)
    go_ret2
    exact ⟨0, _, rfl, fun h => absurd h hw, Below.refl _ _⟩
end
end Go.Proofs.Ytpcpcgbejinlmaa
/- Plain facts of package table, without the program: the tables below a table, over the list of a memory's words; what hangs on them alone, and what becomes of them when one word turns. -/
namespace Go.Proofs.Ytpcpcgbejinlmaa
open Go.RowKit
def FF (ws : List Int) : Int := (ws.length : Int) / 8
def tabs (ws : List Int) : Nat → Int → List Int
  | 0, t => [t]
  | l + 1, t => t :: (List.range 8).flatMap fun i : Nat => if say (FF ws) ((l + 1 : Nat) : Int) (wd ws t (i : Int)) = 2 then tabs ws l (unF (wd ws t (i : Int))) else []
def subt (ws : List Int) : Nat → Int → List Int
  | 0, _ => []
  | l + 1, x => if say (FF ws) ((l + 1 : Nat) : Int) x = 2 then tabs ws l (unF x) else []
theorem flat_nil (n : Nat) (f : Nat → List Int) (h : ∀ i, i < n → f i = []) : (List.range n).flatMap f = [] := by
  rw [List.flatMap_eq_nil_iff]
  intro i hi
  exact h i (List.mem_range.1 hi)
theorem tabs_eq (ws : List Int) (l : Nat) (t : Int) : tabs ws l t = t :: (List.range 8).flatMap fun i : Nat => subt ws l (wd ws t (i : Int)) := by
  cases l with
  | zero =>
    have : (List.range 8).flatMap (fun i : Nat => subt ws 0 (wd ws t (i : Int))) = [] := flat_nil 8 _ fun _ _ => rfl
    rw [this]; rfl
  | succ l => rfl
theorem tabs_head (ws : List Int) (l : Nat) (t : Int) : t ∈ tabs ws l t := by rw [tabs_eq]; simp
theorem mem_tabs {ws : List Int} {l : Nat} {t u : Int} : u ∈ tabs ws l t ↔ u = t ∨ ∃ i : Nat, i < 8 ∧ u ∈ subt ws l (wd ws t (i : Int)) := by
  rw [tabs_eq, List.mem_cons, List.mem_flatMap]
  constructor
  · rintro (h | ⟨i, hi, h⟩)
    · exact Or.inl h
    · exact Or.inr ⟨i, List.mem_range.1 hi, h⟩
  · rintro (h | ⟨i, hi, h⟩)
    · exact Or.inl h
    · exact Or.inr ⟨i, List.mem_range.2 hi, h⟩
def SameOn (ws ws' : List Int) (S : List Int) : Prop := ws'.length = ws.length ∧ ∀ u ∈ S, ∀ i : Nat, i < 8 → wd ws' u (i : Int) = wd ws u (i : Int)
theorem SameOn.sub {ws ws' S S' : List Int} (h : SameOn ws ws' S) (hs : ∀ u ∈ S', u ∈ S) : SameOn ws ws' S' := ⟨h.1, fun u hu => h.2 u (hs u hu)⟩
theorem flat_congr {n : Nat} {f g : Nat → List Int} (h : ∀ i, i < n → f i = g i) : (List.range n).flatMap f = (List.range n).flatMap g := by
  induction n with
  | zero => rfl
  | succ n ih =>
    rw [List.range_succ, List.flatMap_append, List.flatMap_append, ih fun i hi => h i (by omega)]
    simp [h n (by omega)]
theorem tabs_same {ws ws' : List Int} : ∀ (l : Nat) (t : Int), SameOn ws ws' (tabs ws l t) → tabs ws' l t = tabs ws l t := by
  intro l
  induction l with
  | zero => intro t _; rfl
  | succ l ih =>
    intro t h
    rw [tabs_eq, tabs_eq]
    congr 1
    refine flat_congr fun i hi => ?_
    rw [h.2 t (tabs_head ws (l + 1) t) i hi]
    have hF : FF ws' = FF ws := by unfold FF; rw [h.1]
    simp only [subt, hF]
    split
    · rename_i hs
      refine ih _ (h.sub fun u hu => mem_tabs.2 (Or.inr ⟨i, hi, ?_⟩))
      simp only [subt, if_pos hs]
      exact hu
    · rfl
theorem subt_same {ws ws' : List Int} (l : Nat) (x : Int) (h : SameOn ws ws' (subt ws l x)) (hF : ws'.length = ws.length) : subt ws' l x = subt ws l x := by
  cases l with
  | zero => rfl
  | succ l =>
    have hF' : FF ws' = FF ws := by unfold FF; rw [hF]
    simp only [subt, hF'] at h ⊢
    split
    · rename_i hs
      rw [if_pos hs] at h
      exact tabs_same l _ h
    · rfl
def Good (ws : List Int) : Nat → Int → Prop
  | 0, t => (0 ≤ t ∧ t < FF ws) ∧ ∀ i : Nat, i < 8 → say (FF ws) 0 (wd ws t (i : Int)) ≠ 0
  | l + 1, t => (0 ≤ t ∧ t < FF ws) ∧ ∀ i : Nat, i < 8 → say (FF ws) ((l + 1 : Nat) : Int) (wd ws t (i : Int)) ≠ 0 ∧ (say (FF ws) ((l + 1 : Nat) : Int) (wd ws t (i : Int)) = 2 → Good ws l (unF (wd ws t (i : Int))))
theorem Good.frame {ws : List Int} {l : Nat} {t : Int} (h : Good ws l t) : 0 ≤ t ∧ t < FF ws := by
  cases l with
  | zero => exact h.1
  | succ l => exact h.1
theorem Good.entry {ws : List Int} {l : Nat} {t : Int} (h : Good ws l t) (i : Nat) (hi : i < 8) : say (FF ws) (l : Int) (wd ws t (i : Int)) ≠ 0 := by
  cases l with
  | zero => exact h.2 i hi
  | succ l => exact (h.2 i hi).1
theorem Good.below {ws : List Int} {l : Nat} {t : Int} (h : Good ws (l + 1) t) (i : Nat) (hi : i < 8) (hs : say (FF ws) ((l + 1 : Nat) : Int) (wd ws t (i : Int)) = 2) : Good ws l (unF (wd ws t (i : Int))) := (h.2 i hi).2 hs
theorem good_same {ws ws' : List Int} : ∀ (l : Nat) (t : Int), SameOn ws ws' (tabs ws l t) → Good ws l t → Good ws' l t := by
  intro l
  induction l with
  | zero =>
    intro t h hg
    have hF : FF ws' = FF ws := by unfold FF; rw [h.1]
    refine ⟨by rw [hF]; exact hg.1, fun i hi => ?_⟩
    rw [hF, h.2 t (tabs_head ws 0 t) i hi]
    exact hg.2 i hi
  | succ l ih =>
    intro t h hg
    have hF : FF ws' = FF ws := by unfold FF; rw [h.1]
    refine ⟨by rw [hF]; exact hg.1, fun i hi => ?_⟩
    rw [hF, h.2 t (tabs_head ws (l + 1) t) i hi]
    refine ⟨(hg.2 i hi).1, fun hs => ih _ (h.sub fun u hu => mem_tabs.2 (Or.inr ⟨i, hi, ?_⟩)) ((hg.2 i hi).2 hs)⟩
    simp only [subt, if_pos hs]
    exact hu
theorem tabs_frames {ws : List Int} : ∀ (l : Nat) (t : Int), Good ws l t → ∀ u ∈ tabs ws l t, 0 ≤ u ∧ u < FF ws := by
  intro l
  induction l with
  | zero =>
    intro t h u hu
    have : u = t := by simpa [tabs] using hu
    rw [this]; exact h.frame
  | succ l ih =>
    intro t h u hu
    rcases mem_tabs.1 hu with rfl | ⟨i, hi, hu⟩
    · exact h.frame
    · simp only [subt] at hu
      split at hu
      · rename_i hs
        exact ih _ (h.below i hi hs) u hu
      · cases hu
theorem dg_nat (p : Int) (l : Nat) : ∃ i : Nat, dg p l = i ∧ i < 8 := ⟨(dg p l).toNat, by unfold dg; omega, by unfold dg; omega⟩
end Go.Proofs.Ytpcpcgbejinlmaa
/- Plain facts of package table, without the program: one word of a table below turns; what becomes of the tables and of the walks. -/
namespace Go.Proofs.Ytpcpcgbejinlmaa
open Go.RowKit
theorem flat_split : ∀ (n i : Nat) (f g : Nat → List Int), i < n → (∀ k, k < n → k ≠ i → f k = g k) →
    ∃ R, ((List.range n).flatMap f).Perm (f i ++ R) ∧ ((List.range n).flatMap g).Perm (g i ++ R) ∧ ∀ k, k < n → k ≠ i → ∀ u ∈ f k, u ∈ R := by
  intro n
  induction n with
  | zero => intro i f g h; exact absurd h (Nat.not_lt_zero _)
  | succ n ih =>
    intro i f g hi h
    simp only [List.range_succ, List.flatMap_append, List.flatMap_cons, List.flatMap_nil, List.append_nil]
    by_cases hin : i = n
    · subst hin
      refine ⟨(List.range i).flatMap f, List.perm_append_comm, ?_, fun k hk hne u hu => ?_⟩
      · rw [flat_congr (f := f) (g := g) fun k hk => h k (by omega) (by omega)]
        exact List.perm_append_comm
      · rw [List.mem_flatMap]
        exact ⟨k, List.mem_range.2 (by omega), hu⟩
    · obtain ⟨R, p1, p2, hm⟩ := ih i f g (by omega) fun k hk hne => h k (by omega) hne
      refine ⟨R ++ f n, ?_, ?_, fun k hk hne u hu => ?_⟩
      · rw [← List.append_assoc]; exact p1.append_right _
      · rw [← h n (by omega) (fun e => hin e.symm), ← List.append_assoc]; exact p2.append_right _
      · by_cases hkn : k = n
        · subst hkn; exact List.mem_append.2 (Or.inr hu)
        · exact List.mem_append.2 (Or.inl (hm k (by omega) hne u hu))
def nod (ws : List Int) (p : Int) : Nat → Int → Nat → Option Int
  | 0, t, v => if v = 0 then some t else none
  | l + 1, t, v => if v = l + 1 then some t else if say (FF ws) ((l + 1 : Nat) : Int) (wd ws t (dg p (l + 1))) = 2 then nod ws p l (unF (wd ws t (dg p (l + 1)))) v else none
theorem nod_here (ws : List Int) (p : Int) (l : Nat) (t : Int) : nod ws p l t l = some t := by cases l <;> simp [nod]
theorem nod_down {ws : List Int} {p : Int} {l : Nat} {t u : Int} {v : Nat} (h : nod ws p (l + 1) t v = some u) (hv : v ≠ l + 1) : say (FF ws) ((l + 1 : Nat) : Int) (wd ws t (dg p (l + 1))) = 2 ∧ nod ws p l (unF (wd ws t (dg p (l + 1)))) v = some u := by
  unfold nod at h
  rw [if_neg hv] at h
  split at h
  · rename_i hs; exact ⟨hs, h⟩
  · cases h
theorem nod_mem {ws : List Int} {p : Int} : ∀ (l : Nat) (t : Int) (v : Nat) (u : Int), nod ws p l t v = some u → v ≤ l ∧ u ∈ tabs ws l t := by
  intro l
  induction l with
  | zero =>
    intro t v u h
    unfold nod at h
    split at h
    · rename_i hv; injection h with h; subst h hv; exact ⟨Nat.le_refl _, tabs_head ..⟩
    · cases h
  | succ l ih =>
    intro t v u h
    by_cases hv : v = l + 1
    · subst hv; rw [nod_here] at h; injection h with h; subst h; exact ⟨Nat.le_refl _, tabs_head ..⟩
    · obtain ⟨hs, h⟩ := nod_down h hv
      obtain ⟨i, hi, hi8⟩ := dg_nat p (l + 1)
      have := ih _ v u h
      refine ⟨by omega, mem_tabs.2 (Or.inr ⟨i, hi8, ?_⟩)⟩
      rw [← hi]
      simp only [subt, if_pos hs]
      exact this.2
structure One (ws ws' : List Int) (u : Int) (i : Nat) (y : Int) : Prop where
  len : ws'.length = ws.length
  at_ : wd ws' u (i : Int) = y
  else_ : ∀ (t : Int) (k : Nat), k < 8 → ¬ (t = u ∧ k = i) → wd ws' t (k : Int) = wd ws t (k : Int)
theorem One.same {ws ws' : List Int} {u y : Int} {i : Nat} (h : One ws ws' u i y) {S : List Int} (hu : u ∉ S) : SameOn ws ws' S := ⟨h.len, fun t ht k hk => h.else_ t k hk (by rintro ⟨rfl, _⟩; exact hu ht)⟩
theorem One.ff {ws ws' : List Int} {u y : Int} {i : Nat} (h : One ws ws' u i y) : FF ws' = FF ws := by unfold FF; rw [h.len]
section
variable {ws ws' : List Int} {p u y : Int} {i v : Nat}
theorem tabs_one (h : One ws ws' u i y) (hi : dg p v = (i : Int)) (hi8 : i < 8) : ∀ (l : Nat) (t : Int), nod ws p l t v = some u → (tabs ws l t).Nodup →
    ∃ R, (tabs ws l t).Perm (subt ws v (wd ws u (i : Int)) ++ R) ∧ (tabs ws' l t).Perm (subt ws' v y ++ R) := by
  intro l
  induction l with
  | zero =>
    intro t hn hd
    have hv : v = 0 := by have := (nod_mem 0 t v u hn).1; omega
    subst hv
    exact ⟨tabs ws 0 t, by simp [subt], by simp [subt, tabs]⟩
  | succ l ih =>
    intro t hn hd
    rw [tabs_eq] at hd
    by_cases hv : v = l + 1
    · subst hv
      rw [nod_here] at hn
      injection hn with hn
      subst hn
      have hnd := List.nodup_cons.1 hd
      obtain ⟨R, p1, p2, hm⟩ := flat_split 8 i (fun k => subt ws (l + 1) (wd ws t (k : Int))) (fun k => subt ws' (l + 1) (wd ws' t (k : Int))) hi8 (fun k hk hne => by
        show subt ws (l + 1) (wd ws t (k : Int)) = subt ws' (l + 1) (wd ws' t (k : Int))
        rw [h.else_ t k hk (fun e => hne e.2)]
        refine (subt_same (l + 1) _ (h.same fun hu => hnd.1 ?_) h.len).symm
        exact List.mem_flatMap.2 ⟨k, List.mem_range.2 hk, hu⟩)
      refine ⟨t :: R, ?_, ?_⟩
      · rw [tabs_eq]; exact (p1.cons t).trans List.perm_middle.symm
      · rw [tabs_eq]
        have p2' := p2
        simp only [h.at_] at p2'
        exact (p2'.cons t).trans List.perm_middle.symm
    · obtain ⟨hs, hn'⟩ := nod_down hn hv
      obtain ⟨k0, hk0, hk8⟩ := dg_nat p (l + 1)
      rw [hk0] at hs hn'
      have hum := (nod_mem l _ v u hn').2
      have hnd := List.nodup_cons.1 hd
      have hsub : subt ws (l + 1) (wd ws t (k0 : Int)) = tabs ws l (unF (wd ws t (k0 : Int))) := by simp only [subt, if_pos hs]
      have hum2 : u ∈ (List.range 8).flatMap fun k : Nat => subt ws (l + 1) (wd ws t (k : Int)) := List.mem_flatMap.2 ⟨k0, List.mem_range.2 hk8, by rw [hsub]; exact hum⟩
      have htu : t ≠ u := by rintro rfl; exact hnd.1 hum2
      have hwt : ∀ k : Nat, k < 8 → wd ws' t (k : Int) = wd ws t (k : Int) := fun k hk => h.else_ t k hk (fun e => htu e.1)
      -- apart from the way nothing turns
      obtain ⟨R1, q1, -, hm⟩ := flat_split 8 k0 (fun k => subt ws (l + 1) (wd ws t (k : Int))) (fun k => subt ws (l + 1) (wd ws t (k : Int))) hk8 (fun _ _ _ => rfl)
      have hnd2 := q1.nodup_iff.1 hnd.2
      rw [List.nodup_append] at hnd2
      obtain ⟨R, p1, p2, -⟩ := flat_split 8 k0 (fun k => subt ws (l + 1) (wd ws t (k : Int))) (fun k => subt ws' (l + 1) (wd ws' t (k : Int))) hk8 (fun k hk hne => by
        show subt ws (l + 1) (wd ws t (k : Int)) = subt ws' (l + 1) (wd ws' t (k : Int))
        rw [hwt k hk]
        refine (subt_same (l + 1) _ (h.same fun hu => ?_) h.len).symm
        exact hnd2.2.2 u (by show u ∈ subt ws (l + 1) (wd ws t (k0 : Int)); rw [hsub]; exact hum) u (hm k hk hne u hu) rfl)
      obtain ⟨R0, r1, r2⟩ := ih _ hn' (by have := hnd2.1; simp only [hsub] at this; exact this)
      have e1 : subt ws' (l + 1) (wd ws' t (k0 : Int)) = tabs ws' l (unF (wd ws t (k0 : Int))) := by
        rw [hwt k0 hk8]; simp only [subt, h.ff, if_pos hs]
      simp only [hsub] at p1
      simp only [e1] at p2
      refine ⟨t :: (R0 ++ R), ?_, ?_⟩
      · rw [tabs_eq]
        refine ((p1.trans (r1.append_right R)).cons t).trans ?_
        rw [List.append_assoc]
        exact List.perm_middle.symm
      · rw [tabs_eq]
        refine ((p2.trans (r2.append_right R)).cons t).trans ?_
        rw [List.append_assoc]
        exact List.perm_middle.symm
end
end Go.Proofs.Ytpcpcgbejinlmaa
