/- Plain facts of package table: what Split, Merge and Unmap make of two trees and a bag. -/
import Derived.Test.YtpcpcgbejinlmaaMk26
namespace Go.Proofs.Ytpcpcgbejinlmaa
open Go.RowKit
section
variable {ws ws' L L' R B : List Int} {p r q u y o f : Int} {i v : Nat}
theorem prL_wd {g : Nat → En} (hl : ws.length = 4096) (h0 : 0 ≤ f) (h1 : f < 512) : ∀ n, n ≤ 8 → (∀ k, k < n → enC (g k) = 0) → (prL g f ws n).length = 4096 ∧ ∀ (t : Int) (k : Nat), k < 8 → wd (prL g f ws n) t (k : Int) = if t = f ∧ k < n then enV (g k) else wd ws t (k : Int) := by
  intro n
  induction n with
  | zero => intro _ _; exact ⟨hl, fun t k _ => by rw [if_neg (by omega)]; rfl⟩
  | succ n ih =>
    intro hn hc
    obtain ⟨a, b⟩ := ih (by omega) fun k hk => hc k (by omega)
    have e : prL g f ws (n + 1) = ptL (prL g f ws n) f (n : Int) 0 (enV (g n)) := by
      show ptL (prL g f ws n) f (n : Int) (enC (g n)) (enV (g n)) = _
      rw [hc n (by omega)]
    rw [e]
    have hin : inT (prL g f ws n).length f (n : Int) = true := by rw [inT_iff, a]; omega
    have ho := wd_put (v := enV (g n)) hin
    refine ⟨by rw [ho.len]; exact a, fun t k hk => ?_⟩
    by_cases c : t = f ∧ k = n
    · obtain ⟨rfl, rfl⟩ := c
      rw [ho.at_, if_pos ⟨rfl, by omega⟩]
    · rw [ho.else_ t k hk c, b t k hk]
      by_cases d : t = f ∧ k < n
      · rw [if_pos d, if_pos ⟨d.1, by omega⟩]
      · rw [if_neg d, if_neg]
        rintro ⟨d1, d2⟩
        exact d ⟨d1, by
          have : k ≠ n := fun e => c ⟨d1, e⟩
          omega⟩
theorem fol_end (he : (fol ws r p).er = 0) : (0 ≤ p ∧ p ≤ 4095) ∧ (fol ws r p).ts.length = 4 - (fol ws r p).lv ∧ (fol ws r p).lv ≤ 3 ∧ nod ws p 3 r (fol ws r p).lv = some (lastT (fol ws r p)) ∧ say (FF ws) ((fol ws r p).lv : Int) (wd ws (lastT (fol ws r p)) (dg p (fol ws r p).lv)) = 3 ∧ (fol ws r p).x = wd ws (lastT (fol ws r p)) (dg p (fol ws r p).lv) := by
  obtain ⟨f1, f2, f3⟩ := fol_ok he
  obtain ⟨g1, g2⟩ := fol_wk (ws := ws) (r := r) (p := p) (by omega)
  have hh := (wk_fine ws p 3 r).head (by rw [← g1]; omega)
  have h1 : 1 ≤ (fol ws r p).ts.length := by obtain ⟨ts, e⟩ := hh; rw [g1, e]; simp
  have hts : (wk ws p 3 r).ts[(wk ws p 3 r).ts.length - 1]? = some (lastT (fol ws r p)) := by
    unfold lastT; rw [g1]; exact last_get (by rw [← g1]; exact h1)
  obtain ⟨n1, n2⟩ := nod_ts 3 r (by rw [← g1]; omega) _ _ hts
  obtain ⟨-, e2⟩ := ts_end 3 r (by rw [← g1]; omega) _ hts
  obtain ⟨e3, e4, e5⟩ := e2 (by rw [← g1]; exact he)
  rw [← g1] at n2 e3 e4 e5
  rw [show 3 - ((fol ws r p).ts.length - 1) = (fol ws r p).lv by omega] at n2
  exact ⟨g2, f2, f1, n2, e4, e5⟩
theorem leaf_lv {F x : Int} {l : Nat} (hl : l ≤ 3) (h : say F (l : Int) x = 3) : l ≤ 2 := by
  obtain ⟨-, -, h3, -, -, -, h7⟩ := leaf_says h
  rcases h7 with e | e
  · omega
  · have := h3 e; omega
theorem last_split {α : Type} (L : List α) (d : α) (h : L ≠ []) : L = L.dropLast ++ [L.getLastD d] := by
  rw [List.getLastD_eq_getLast?, List.getLast?_eq_some_getLast h]
  exact (List.dropLast_concat_getLast h).symm
theorem split_inv (h : Inv ws L r q) (hE : spE ws L R r p = 0) : Stp ws L (spW ws L r p) L.dropLast r q := by
  unfold spE at hE
  split at hE
  · split at hE
    · rename_i he
      split at hE
      · omega
      · rename_i hlv0
        split at hE
        · omega
        · rename_i hLn
          obtain ⟨g2, f2, f1, n2, e4, e5⟩ := fol_end he
          have hlv2 := leaf_lv f1 e4
          have hL := last_split L 0 hLn
          unfold spW
          generalize L.getLastD 0 = f at *
          have hfL : f ∈ L := by rw [hL]; simp
          have hff := h.fr f hfL
          obtain ⟨p1, p2, p3, p4, p5⟩ := h.parts
          obtain ⟨v, hv⟩ : ∃ v, (fol ws r p).lv = v + 1 := ⟨(fol ws r p).lv - 1, by omega⟩
          have hv01 : v = 0 ∨ v = 1 := by omega
          rw [h.ff] at e4
          rw [hv] at e4 n2 e5
          have hps := fun k (hk : k < 8) => part_says (k := k) hv01 (by decide) e4 hk
          rw [← e5] at hps
          have hpc : ∀ k, k < 8 → enC (prG (fol ws r p) k) = 0 ∧ enV (prG (fol ws r p) k) = partW (fol ws r p).x v k := fun k hk => by
            have h1 := (hps k hk).1
            have e : prG (fol ws r p) k = ⟨unF (fol ws r p).x + k * 8 ^ v, unB (fol ws r p).x 0, unB (fol ws r p).x 1, decide (0 < v), unB (fol ws r p).x 9, unB (fol ws r p).x 5, unB (fol ws r p).x 6⟩ := by
              unfold prG pt
              rw [hv]
              rcases hv01 with rfl | rfl
              · simp [szO]
              · simp [szO]
            rw [e]
            exact ⟨h1, by unfold enV packI; rw [if_pos h1]; rfl⟩
          have hzl := ze_len h.len hff.1 hff.2
          obtain ⟨q1, q2⟩ := prL_wd (ws := zeL ws f 1) hzl hff.1 hff.2 8 (Nat.le_refl _) fun k hk => (hpc k hk).1
          have hSn : ∀ S : List Int, f ∉ S → SameOn ws (prL (prG (fol ws r p)) f (zeL ws f 1) 8) S := fun S hS => ⟨by rw [q1, h.len], fun x hx k hk => by
            have hxf : x ≠ f := fun e => hS (e ▸ hx)
            rw [q2 x k hk, if_neg (fun e => hxf e.1), ze_wd h.len hff.1 hff.2 x k hk, if_neg hxf]⟩
          have hSr := hSn _ (p4 f hfL).1
          have hSq := hSn _ (p4 f hfL).2
          have hwf : ∀ k : Nat, k < 8 → wd (prL (prG (fol ws r p)) f (zeL ws f 1) 8) f (k : Int) = partW (fol ws r p).x v k := fun k hk => by
            rw [q2 f k hk, if_pos ⟨rfl, hk⟩]; exact (hpc k hk).2
          generalize hW : prL (prG (fol ws r p)) f (zeL ws f 1) 8 = W at *
          obtain ⟨i1, i2⟩ := h.apart hSr hSq
          have hFW : FF W = 512 := i1.ff
          have s1 : Stp ws L W L r q := ⟨i1, by rw [i2], hSq⟩
          have ht : tabs W v f = [f] := by
            rw [tabs_eq, flat_nil 8 _ fun k hk => by rw [hwf k hk]; exact subt_leaf (by rw [hFW, (hps k hk).2.1]; decide)]
          have hg : Good W v f := by
            have hfr : 0 ≤ f ∧ f < FF W := by rw [hFW]; exact hff
            have hsay : ∀ k : Nat, k < 8 → say (FF W) (v : Int) (wd W f (k : Int)) = 3 := fun k hk => by rw [hwf k hk, hFW]; exact (hps k hk).2.1
            rcases hv01 with rfl | rfl
            · exact ⟨hfr, fun k hk => by have := hsay k hk; rw [show ((0 : Nat) : Int) = 0 from rfl] at this; rw [this]; decide⟩
            · exact ⟨hfr, fun k hk => by rw [hsay k hk]; exact ⟨by decide, fun e => by cases e⟩⟩
          have n3 := nod_same (p := p) (v := v + 1) 3 r hSr
          rw [n2] at n3
          have hu := (nod_mem 3 r _ _ n2).2
          obtain ⟨i, hi, hi8⟩ := dg_nat p (v + 1)
          have hP : L.Perm (f :: L.dropLast) := by
            conv => lhs; rw [hL]
            exact List.perm_append_comm
          rw [hv]
          exact s1.trans (i1.link n3 (by rw [hi, hSr.2 _ hu i hi8, ← hi, hFW, e4]; decide) (by omega) hP ht hg).1
    · rename_i he; exact absurd hE he
  · rename_i hr; exact absurd hE hr
theorem merge_inv (h : Inv ws L r q) (hE : meE ws R r p = 0) : Stp ws L (meW ws r p) (L ++ [(fol ws r (dnI p 3 + 7)).ts.getD 3 0]) r q := by
  unfold meE at hE
  split at hE
  · split at hE
    · rename_i hm
      split at hE
      · rename_i hg
        obtain ⟨k7, l7⟩ := mrE_ok 8 0 hm 7 (by omega) (by omega)
        obtain ⟨k0, l0⟩ := mrE_ok 8 0 hm 0 (by omega) (by omega)
        rw [show ((7 : Nat) : Int) = 7 from rfl] at k7 l7
        obtain ⟨g2, f2, f1, n2, e4, e5⟩ := fol_end k7
        obtain ⟨-, -, -, -, e40, e50⟩ := fol_end k0
        rw [l7] at f2 n2 e4 e5
        rw [l0] at e40 e50
        rw [← e5] at e4
        rw [← e50] at e40
        obtain ⟨g1, -⟩ := fol_wk (ws := ws) (r := r) (p := dnI p 3 + 7) (by omega)
        have h2 : (wk ws (dnI p 3 + 7) 3 r).ts[2]? = some ((fol ws r (dnI p 3 + 7)).ts.getD 2 0) := by
          rw [g1, List.getD_eq_getElem?_getD, List.getElem?_eq_getElem (by rw [← g1]; omega)]; rfl
        have h3 : (wk ws (dnI p 3 + 7) 3 r).ts[2 + 1]? = some ((fol ws r (dnI p 3 + 7)).ts.getD 3 0) := by
          rw [g1, List.getD_eq_getElem?_getD, List.getElem?_eq_getElem (by rw [← g1]; omega)]; rfl
        obtain ⟨m1, m2⟩ := nod_ts 3 r (by rw [← g1]; omega) _ _ h2
        obtain ⟨m3, m4, m5⟩ := ts_link 3 r (by rw [← g1]; omega) _ _ _ h2 h3
        unfold meW
        generalize (fol ws r (dnI p 3 + 7)).ts.getD 2 0 = u at *
        generalize (fol ws r (dnI p 3 + 7)).ts.getD 3 0 = t at *
        -- the huge leaf
        have hg' := hg
        unfold mgOk at hg'
        rw [Bool.and_eq_true, List.all_eq_true] at hg'
        have hg7 := hg'.2 7 (List.mem_range.2 (by omega))
        simp only [Bool.and_eq_true, decide_eq_true_eq] at hg7
        have hE0 : (mrG ws r (dnI p 3) 0).f = unF (fol ws r (dnI p 3 + ((0 : Nat) : Int))).x := rfl
        have hE7 : (mrG ws r (dnI p 3) 7).f = unF (fol ws r (dnI p 3 + 7)).x := rfl
        have hf0 := un_frame (fol ws r (dnI p 3 + ((0 : Nat) : Int))).x
        obtain ⟨-, -, -, -, -, q6, -⟩ := leaf_says e4
        have hod : od ((0 : Nat) : Int) (unB (fol ws r (dnI p 3 + 7)).x 7) = 0 := by unfold od; split <;> rfl
        rw [hod, h.ff] at q6
        have hfr : (mrG ws r (dnI p 3) 0).f + 7 < 512 := by
          have := hg7.2
          rw [hE7] at this
          have h7 : ((7 : Nat) : Int) = 7 := rfl
          have hp : (2 : Int) ^ (0 : Int).toNat = 1 := rfl
          rw [hp] at q6
          omega
        have hf00 : 0 ≤ (mrG ws r (dnI p 3) 0).f := by rw [hE0]; exact hf0.1
        generalize hN : mrG ws r (dnI p 3) = E at *
        have hc : enC (mrN E) = 0 := by
          show chkI (E 0).f true (E 0).w true false (anU E 8) (anD E 8) = 0
          unfold chkI
          rw [if_neg (by omega), if_neg (by omega)]; rfl
        have hV : enV (mrN E) = wordI (E 0).f true (E 0).w true false (anU E 8) (anD E 8) := by
          unfold enV packI
          rw [show chkI (mrN E).f (mrN E).p (mrN E).w (mrN E).h (mrN E).k (mrN E).u (mrN E).d = 0 from hc, if_pos rfl]; rfl
        obtain ⟨s0, s1, s2, s3, s4, s5, s6, s7⟩ := word_says (E 0).f true (E 0).w true false (anU E 8) (anD E 8) hc
        have hsay : say (FF ws) ((0 + 1 : Nat) : Int) (enV (mrN E)) = 3 := by
          rw [hV, h.ff]
          refine say_leaf_of s0 (fun e => by rw [s5] at e; cases e) (fun _ => by omega) ?_ ?_ ?_ (Or.inr s4)
          · rw [s1, s2]; simp [noB]
          · rw [s1, s4]; exact hg'.1
          · rw [s1, s4]; simp [od]; omega
        rw [hc]
        have ht : tabs ws 0 t = [t] := rfl
        have hfin := h.unlink (y := enV (mrN E)) (v := 0) m2 m4 m5 ht ⟨by rw [hsay]; decide, by rw [hsay]; decide⟩
        exact hfin.perm (List.perm_append_comm (l₁ := [t]) (l₂ := L))
      · omega
    · rename_i hm; exact absurd hE hm
  · rename_i hr; exact absurd hE hr
theorem zero_says {F l x : Int} (h : zeroW x = true) : say F l x = 1 := by
  unfold zeroW at h
  rw [Bool.and_eq_true] at h
  obtain ⟨h1, h2⟩ := h
  have h2' := h2
  unfold noB at h2'
  simp only [Bool.and_eq_true] at h2'
  have hk : unB x 9 = false := by simpa using h2'.1.1.2
  have hh : unB x 7 = false := by simpa using h2'.1.1.1.2
  unfold say sayB
  rw [h1, hk, hh, if_neg (by simp), if_neg (by simp), if_neg (by simp)]
  rw [hk, hh] at h2
  rw [if_pos h2]
theorem emp_tabs {t : Int} (h : emp ws t = true) (l : Nat) : tabs ws l t = [t] := by
  unfold emp at h
  rw [List.all_eq_true] at h
  rw [tabs_eq, flat_nil 8 _ fun i hi => subt_leaf (by rw [zero_says (h i (List.mem_range.2 hi))]; decide)]
def unC (p : Int) (ts : List Int) : Nat → List Int → List Int × Nat
  | 0, ws => (ws, 0)
  | k + 1, ws => if emp ws (ts.getD (k + 1) 0) = true then unC p ts k (ptL ws (ts.getD k 0) ((dgL p).getD k 0) 0 0) else (ws, k + 1)
theorem unC_le (p : Int) (ts : List Int) : ∀ (k : Nat) (ws : List Int), (unC p ts k ws).2 ≤ k := by
  intro k
  induction k with
  | zero => intro ws; exact Nat.le_refl _
  | succ k ih =>
    intro ws
    unfold unC
    split
    · have := ih (ptL ws (ts.getD k 0) ((dgL p).getD k 0) 0 0); omega
    · exact Nat.le_refl _
theorem nod_above {v' : Nat} (h : One ws ws' u i y) : ∀ (l : Nat) (t : Int), nod ws p l t v = some u → (tabs ws l t).Nodup → v ≤ v' → v' ≤ l → nod ws' p l t v' = nod ws p l t v' := by
  intro l
  induction l with
  | zero => intro t _ _ _ _; rfl
  | succ l ih =>
    intro t hn hd h1 h2
    by_cases hv' : v' = l + 1
    · subst hv'; rw [nod_here, nod_here]
    · obtain ⟨k0, hk08, hk0, hs, hn', htu, hd', hoff⟩ := nod_facts hd hn (by omega)
      unfold nod
      rw [if_neg hv', if_neg hv', hk0, h.else_ t k0 hk08 (fun e => htu e.1), h.ff, if_pos hs, if_pos hs]
      exact ih _ hn' hd' h1 (by omega)
theorem nod_inj {a b : Nat} : ∀ (l : Nat) (t : Int), (tabs ws l t).Nodup → nod ws p l t a = some u → nod ws p l t b = some u → a = b := by
  intro l
  induction l with
  | zero =>
    intro t _ ha hb
    have := (nod_mem 0 t a u ha).1
    have := (nod_mem 0 t b u hb).1
    omega
  | succ l ih =>
    intro t hd ha hb
    by_cases ea : a = l + 1
    · by_cases eb : b = l + 1
      · omega
      · obtain ⟨k0, _, _, _, _, htu, _, _⟩ := nod_facts hd hb eb
        subst ea
        rw [nod_here] at ha
        injection ha with ha
        exact absurd ha htu
    · by_cases eb : b = l + 1
      · obtain ⟨k0, _, _, _, _, htu, _, _⟩ := nod_facts hd ha ea
        subst eb
        rw [nod_here] at hb
        injection hb with hb
        exact absurd hb htu
      · obtain ⟨k0, h1, h2, h3, h4, h5, h6, h7⟩ := nod_facts hd ha ea
        obtain ⟨k1, g1, g2, g3, g4, g5, g6, g7⟩ := nod_facts hd hb eb
        obtain rfl : k0 = k1 := by rw [h2] at g2; omega
        exact ih _ h6 h4 g4
theorem unC_inv (hp : 0 ≤ p ∧ p ≤ 4095) (ts : List Int) : ∀ (k : Nat) (ws L : List Int), k ≤ 3 → k < ts.length → Inv ws L r q → (∀ j, j ≤ k → nod ws p 3 r (3 - j) = some (ts.getD j 0)) → (∀ j, j < k → say (FF ws) ((3 - j : Nat) : Int) (wd ws (ts.getD j 0) (dg p (3 - j))) = 2 ∧ unF (wd ws (ts.getD j 0) (dg p (3 - j))) = ts.getD (j + 1) 0) →
    Stp ws L (unC p ts k ws).1 (L ++ ((ts.take (k + 1)).drop ((unC p ts k ws).2 + 1)).reverse) r q := by
  intro k
  induction k with
  | zero =>
    intro ws L hk hl h hn hw
    have : ((ts.take (0 + 1)).drop ((unC p ts 0 ws).2 + 1)) = [] := by
      apply List.drop_of_length_le
      rw [List.length_take]
      show min 1 ts.length ≤ 0 + 1
      omega
    rw [this]
    show Stp ws L ws (L ++ [].reverse) r q
    simpa using Stp.refl h
  | succ k ih =>
    intro ws L hk hl h hn hw
    unfold unC
    by_cases he : emp ws (ts.getD (k + 1) 0) = true
    · rw [if_pos he]
      obtain ⟨w1, w2⟩ := hw k (by omega)
      have hnk := hn k (by omega)
      obtain ⟨v, hv⟩ : ∃ v, 3 - k = v + 1 := ⟨2 - k, by omega⟩
      rw [hv] at w1 w2 hnk
      have hslot : (dgL p).getD k 0 = dg p (v + 1) := by rw [show k = 3 - (v + 1) by omega]; exact slot_last hp (by omega)
      have s1 := h.unlink (y := 0) hnk w1 w2 (emp_tabs he v) ⟨by rw [say_zero]; decide, by rw [say_zero]; decide⟩
      rw [hslot]
      obtain ⟨i, hi, hi8⟩ := dg_nat p (v + 1)
      have hin := h.inT (nod_mem 3 r _ _ hnk).2 hi8
      have ho := wd_put (v := 0) hin
      rw [hi] at s1 ⊢
      obtain ⟨p1, p2, p3, p4, p5⟩ := h.parts
      have hkeep : ∀ j, j ≤ k → nod (ptL ws (ts.getD k 0) (i : Int) 0 0) p 3 r (3 - j) = some (ts.getD j 0) := fun j hj => by
        rw [nod_above ho 3 r hnk p2 (by omega) (by omega)]
        exact hn j (by omega)
      have := ih (ptL ws (ts.getD k 0) (i : Int) 0 0) (ts.getD (k + 1) 0 :: L) (by omega) (by omega) s1.1 hkeep (fun j hj => by
        have hne : ts.getD j 0 ≠ ts.getD k 0 := fun e => by
          have h1 := hn j (by omega)
          rw [e] at h1
          have := nod_inj 3 r p2 h1 hnk
          omega
        obtain ⟨i', hi', hi8'⟩ := dg_nat p (3 - j)
        rw [hi', ho.else_ _ i' hi8' (fun e => hne e.1), ho.ff, ← hi']
        exact hw j (by omega))
      refine (s1.trans this).perm ?_
      have hle := unC_le p ts k (ptL ws (ts.getD k 0) (i : Int) 0 0)
      generalize (unC p ts k (ptL ws (ts.getD k 0) (i : Int) 0 0)).2 = m at hle ⊢
      have ht : ts.take (k + 1 + 1) = ts.take (k + 1) ++ [ts.getD (k + 1) 0] := by
        rw [List.take_add_one, List.getElem?_eq_getElem hl, List.getD_eq_getElem?_getD, List.getElem?_eq_getElem hl]; rfl
      rw [ht, List.drop_append_of_le_length (by rw [List.length_take]; omega), List.reverse_append]
      simp
      exact List.perm_middle.symm
    · rw [if_neg he]
      have : ((ts.take (k + 1 + 1)).drop (k + 1 + 1)) = [] := by
        apply List.drop_of_length_le
        rw [List.length_take]; omega
      rw [this]
      simpa using Stp.refl h
end
end Go.Proofs.Ytpcpcgbejinlmaa
/- Plain facts of package table: what Split and Merge do to walks: no program. -/
namespace Go.Proofs.Ytpcpcgbejinlmaa
open Go.RowKit
section
variable {ws ws' L L' R : List Int} {p r q u o f y x : Int} {i v : Nat}
theorem appr8 (ts : List Int) {l : Nat} {x : Int} {us : List Int} {s : Int} : app ts ⟨0, l, x, us, s⟩ = ⟨0, l, x, ts ++ us, s⟩ := by
  unfold app
  rw [if_neg (by show ¬ (0 : Int) = 5; omega)]
def Ends (ws : List Int) (r o : Int) (l : Nat) (x : Int) : Prop := ∃ ts s, fol ws r o = ⟨0, l, x, ts, s⟩
theorem fol_is (hin : inT ws.length r 0 = true) (h0 : 0 ≤ o) (h1 : o ≤ 4095) : fol ws r o = wk ws o 3 r := by
  unfold fol
  rw [if_pos ⟨hin, h0, h1⟩]
theorem fol_out (h : ¬ (0 ≤ o ∧ o ≤ 4095)) : fol ws r o = ⟨3, 0, 0, [], 0⟩ := by
  unfold fol
  rw [if_neg (fun e => h e.2)]
theorem dg_eqv {a b : Int} (l : Nat) (h : a / 8 ^ l = b / 8 ^ l) : dg a l = dg b l := by unfold dg; rw [h]
theorem inv_inR (h : Inv ws L r q) : inT ws.length r 0 = true := h.inT (mem_tabs.2 (Or.inl rfl)) (k := 0) (by omega)
theorem one_off (h : Inv ws L r q) (ho : One ws ws' u i y) (hn : nod ws p 3 r v = some u) (hi : dg p v = (i : Int)) (hp : 0 ≤ p ∧ p ≤ 4095) (hne : o / 8 ^ v ≠ p / 8 ^ v) : fol ws' r o = fol ws r o := by
  by_cases hc : 0 ≤ o ∧ o ≤ 4095
  · have hin := (inv_inR h)
    rw [fol_is hin hc.1 hc.2, fol_is (by rw [ho.len]; exact hin) hc.1 hc.2]
    refine wk_off ho hi 3 r o hn h.parts.2.1 ?_ hne
    have e : (8 : Int) ^ (3 + 1) = 4096 := rfl
    rw [e]; omega
  · rw [fol_out hc, fol_out hc]
theorem one_leaf (h : Inv ws L r q) (ho : One ws ws' u i y) (hn : nod ws p 3 r v = some u) (hi : dg p v = (i : Int)) (hc : 0 ≤ o ∧ o ≤ 4095) (he : o / 8 ^ v = p / 8 ^ v) (hs : say (FF ws) (v : Int) y = 3) : Ends ws' r o v y := by
  have hin := (inv_inR h)
  obtain ⟨ts, -, e2⟩ := wk_on_ ho 3 r o hn h.parts.2.1 he
  have hd : dg o v = (i : Int) := (dg_eqv v he).trans hi
  have hw : wk ws' o v u = ⟨0, v, y, [u], (i : Int)⟩ := by
    have hs' : say ((ws'.length : Int) / 8) (v : Int) (wd ws' u (dg o v)) = 3 := by rw [hd, ho.at_, ho.len]; exact hs
    rw [wk_stop (by rw [hs']; decide), hs', hd, ho.at_]
    rfl
  refine ⟨ts ++ [u], (i : Int), ?_⟩
  rw [fol_is (by rw [ho.len]; exact hin) hc.1 hc.2, e2, hw, appr8]
theorem one_was (h : Inv ws L r q) (ho : One ws ws' u i y) (hn : nod ws p 3 r v = some u) (hi : dg p v = (i : Int)) (hc : 0 ≤ o ∧ o ≤ 4095) (he : o / 8 ^ v = p / 8 ^ v) (hx : wd ws u (i : Int) = x) (hs : say (FF ws) (v : Int) x = 3) : Ends ws r o v x := by
  have hin := (inv_inR h)
  obtain ⟨ts, e1, -⟩ := wk_on_ ho 3 r o hn h.parts.2.1 he
  have hd : dg o v = (i : Int) := (dg_eqv v he).trans hi
  have hw : wk ws o v u = ⟨0, v, x, [u], (i : Int)⟩ := by
    have hs' : say ((ws.length : Int) / 8) (v : Int) (wd ws u (dg o v)) = 3 := by rw [hd, hx]; exact hs
    rw [wk_stop (by rw [hs']; decide), hs', hd, hx]
    rfl
  refine ⟨ts ++ [u], (i : Int), ?_⟩
  rw [fol_is hin hc.1 hc.2, e1, hw, appr8]
theorem one_link (h : Inv ws L r q) (ho : One ws ws' u i y) (hn : nod ws p 3 r (v + 1) = some u) (hi : dg p (v + 1) = (i : Int)) (hc : 0 ≤ o ∧ o ≤ 4095) (he : o / 8 ^ (v + 1) = p / 8 ^ (v + 1)) (hs : say (FF ws) ((v + 1 : Nat) : Int) y = 2) (hf : unF y = f) {z : Int} (hz : wd ws' f (dg o v) = z) (hs2 : say (FF ws) (v : Int) z = 3) : Ends ws' r o v z := by
  have hin := (inv_inR h)
  obtain ⟨ts, -, e2⟩ := wk_on_ ho 3 r o hn h.parts.2.1 he
  have hd : dg o (v + 1) = (i : Int) := (dg_eqv (v + 1) he).trans hi
  have hw : wk ws' o (v + 1) u = ⟨0, v, z, [u] ++ [f], dg o v⟩ := by
    have hs' : say ((ws'.length : Int) / 8) ((v + 1 : Nat) : Int) (wd ws' u (dg o (v + 1))) = 2 := by rw [hd, ho.at_, ho.len]; exact hs
    rw [wk_on hs', hd, ho.at_, hf]
    have hs3 : say ((ws'.length : Int) / 8) (v : Int) (wd ws' f (dg o v)) = 3 := by rw [hz, ho.len]; exact hs2
    rw [wk_stop (by rw [hs3]; decide), hs3, hz]
    exact appr8 [u]
  refine ⟨ts ++ ([u] ++ [f]), dg o v, ?_⟩
  rw [fol_is (by rw [ho.len]; exact hin) hc.1 hc.2, e2, hw, appr8]
theorem split_walks (h : Inv ws L r q) (hE : spE ws L R r p = 0) : ∃ (v : Nat) (x : Int), (v = 0 ∨ v = 1) ∧ (0 ≤ p ∧ p ≤ 4095) ∧ say 512 ((v + 1 : Nat) : Int) x = 3 ∧
    (∀ o, o / 8 ^ (v + 1) ≠ p / 8 ^ (v + 1) → fol (spW ws L r p) r o = fol ws r o) ∧
    (∀ o, 0 ≤ o ∧ o ≤ 4095 → o / 8 ^ (v + 1) = p / 8 ^ (v + 1) → Ends ws r o (v + 1) x ∧ ∃ j : Nat, j < 8 ∧ dg o v = (j : Int) ∧ Ends (spW ws L r p) r o v (partW x v j)) := by
  have hInv := (split_inv h hE).1
  unfold spE at hE
  split at hE
  · split at hE
    · rename_i he
      split at hE
      · omega
      · rename_i hlv0
        split at hE
        · omega
        · rename_i hLn
          obtain ⟨g2, f2, f1, n2, e4, e5⟩ := fol_end he
          have hlv2 := leaf_lv f1 e4
          have hL := last_split L 0 hLn
          unfold spW
          generalize L.getLastD 0 = f at *
          have hfL : f ∈ L := by rw [hL]; simp
          have hff := h.fr f hfL
          obtain ⟨p1, p2, p3, p4, p5⟩ := h.parts
          obtain ⟨v, hv⟩ : ∃ v, (fol ws r p).lv = v + 1 := ⟨(fol ws r p).lv - 1, by omega⟩
          have hv01 : v = 0 ∨ v = 1 := by omega
          rw [h.ff] at e4
          rw [hv] at e4 n2 e5
          have hps := fun k (hk : k < 8) => part_says (k := k) hv01 (by decide) e4 hk
          rw [← e5] at hps
          have hpc : ∀ k, k < 8 → enC (prG (fol ws r p) k) = 0 ∧ enV (prG (fol ws r p) k) = partW (fol ws r p).x v k := fun k hk => by
            have h1 := (hps k hk).1
            have e : prG (fol ws r p) k = ⟨unF (fol ws r p).x + k * 8 ^ v, unB (fol ws r p).x 0, unB (fol ws r p).x 1, decide (0 < v), unB (fol ws r p).x 9, unB (fol ws r p).x 5, unB (fol ws r p).x 6⟩ := by
              unfold prG pt
              rw [hv]
              rcases hv01 with rfl | rfl
              · simp [szO]
              · simp [szO]
            rw [e]
            exact ⟨h1, by unfold enV packI; rw [if_pos h1]; rfl⟩
          have hzl := ze_len h.len hff.1 hff.2
          obtain ⟨q1, q2⟩ := prL_wd (ws := zeL ws f 1) hzl hff.1 hff.2 8 (Nat.le_refl _) fun k hk => (hpc k hk).1
          have hSn : ∀ S : List Int, f ∉ S → SameOn ws (prL (prG (fol ws r p)) f (zeL ws f 1) 8) S := fun S hS => ⟨by rw [q1, h.len], fun x hx k hk => by
            have hxf : x ≠ f := fun e => hS (e ▸ hx)
            rw [q2 x k hk, if_neg (fun e => hxf e.1), ze_wd h.len hff.1 hff.2 x k hk, if_neg hxf]⟩
          have hSr := hSn _ (p4 f hfL).1
          have hSq := hSn _ (p4 f hfL).2
          have hwf : ∀ k : Nat, k < 8 → wd (prL (prG (fol ws r p)) f (zeL ws f 1) 8) f (k : Int) = partW (fol ws r p).x v k := fun k hk => by
            rw [q2 f k hk, if_pos ⟨rfl, hk⟩]; exact (hpc k hk).2
          generalize hW : prL (prG (fol ws r p)) f (zeL ws f 1) 8 = W at *
          obtain ⟨i1, i2⟩ := h.apart hSr hSq
          have hFW : FF W = 512 := i1.ff
          have n3 := nod_same (p := p) (v := v + 1) 3 r hSr
          rw [n2] at n3
          have hu := (nod_mem 3 r _ _ n2).2
          obtain ⟨i, hi, hi8⟩ := dg_nat p (v + 1)
          have huW : lastT (fol ws r p) ∈ tabs W 3 r := by rw [tabs_same 3 r hSr]; exact hu
          have hin := i1.inT huW hi8
          have ho := wd_put (v := lnk f) hin
          obtain ⟨l1, l2⟩ := link_says (F := FF W) (l := ((v + 1 : Nat) : Int)) (f := f) (by omega) hff.1 (by rw [hFW]; exact hff.2) (by rw [hFW]; omega)
          have huf : lastT (fol ws r p) ≠ f := fun e => (p4 f hfL).1 (e ▸ hu)
          have hfolW : ∀ o, fol W r o = fol ws r o := fun o => by
            by_cases hc : 0 ≤ o ∧ o ≤ 4095
            · rw [fol_is (inv_inR i1) hc.1 hc.2, fol_is (inv_inR h) hc.1 hc.2, wk_tabs o 3 r hSr]
            · rw [fol_out hc, fol_out hc]
          rw [hv, hi]
          generalize lastT (fol ws r p) = u at *
          refine ⟨v, (fol ws r p).x, hv01, g2, by rw [e5]; exact e4, fun o hne => ?_, fun o hc heq => ⟨?_, ?_⟩⟩
          · rw [one_off i1 ho n3 hi g2 hne, hfolW]
          · have hx : wd W u (i : Int) = (fol ws r p).x := by rw [hSr.2 u hu i hi8, e5, hi]
            obtain ⟨ts, s, e⟩ := one_was i1 ho n3 hi hc heq hx (by rw [hFW, e5]; exact e4)
            exact ⟨ts, s, by rw [← hfolW]; exact e⟩
          · obtain ⟨j, hj, hj8⟩ := dg_nat o v
            refine ⟨j, hj8, hj, one_link i1 ho n3 hi hc heq l1 l2 ?_ (by rw [hFW]; exact (hps j hj8).2.1)⟩
            rw [hj, ho.else_ f j hj8 (fun e => huf e.1.symm), hwf j hj8]
    · rename_i he; exact absurd hE he
  · rename_i hr; exact absurd hE hr
end
end Go.Proofs.Ytpcpcgbejinlmaa
