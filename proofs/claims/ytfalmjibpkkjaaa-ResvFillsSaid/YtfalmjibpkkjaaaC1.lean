/- All keys, sorted: bySpace, SortFunc, SortedFunc, keys. -/
import Derived.Test.YtfalmjibpkkjaaaB9
namespace Go.Proofs.Ytfalmjibpkkjaaa
open Go.RowKit Go.Maps Go.Sort Go.Shelf
def cmpI (a b : Int) : Int := if a < b then -1 else if b < a then 1 else 0
def byK (a b : Int × Int) : Int := if cmpI a.1 b.1 ≠ 0 then cmpI a.1 b.1 else cmpI a.2 b.2
def ltK (a b : Int × Int) : Prop := a.1 < b.1 ∨ (a.1 = b.1 ∧ a.2 < b.2)
instance decLtK (a b : Int × Int) : Decidable (ltK a b) := by unfold ltK; infer_instance
theorem byK_lt (a b : Int × Int) : byK a b < 0 ↔ ltK a b := by
  unfold byK cmpI ltK
  split <;> split <;> (try split) <;> (try split) <;> omega
theorem isNaN_any (a : Int) (w : World) : Calls Try.prog 61 #[.int .i64 a] w fun e w' => e = .returned (.bool false) ∧ w = w' := by
  go_enter Try.func61, Try.ntmps61
  go_wp2
  go_ret
  exact ⟨by simp, rfl⟩
theorem compare_any (a b : Int) (w : World) : Calls Try.prog 56 #[.int .i64 a, .int .i64 b] w fun e w' => e = .returned (.int .i64 (cmpI a b)) ∧ w = w' := by
  unfold cmpI
  by_cases h : a < b
  · rw [if_pos h]
    go_enter Try.func56, Try.ntmps56
    go_wp2_with (go_at_call 61; refine (isNaN_any _ _).mono ?_; rintro e w1 ⟨rfl, rfl⟩)
    go_ret
    exact ⟨rfl, rfl⟩
  · rw [if_neg h]
    by_cases k : b < a
    · rw [if_pos k]
      go_enter Try.func56, Try.ntmps56
      go_wp2_with (go_at_call 61; refine (isNaN_any _ _).mono ?_; rintro e w1 ⟨rfl, rfl⟩)
      go_ret
      exact ⟨rfl, rfl⟩
    · rw [if_neg k]
      go_enter Try.func56, Try.ntmps56
      go_wp2_with (go_at_call 61; refine (isNaN_any _ _).mono ?_; rintro e w1 ⟨rfl, rfl⟩)
      go_ret
      exact ⟨rfl, rfl⟩
def orI (x y : Int) : Int := if x ≠ 0 then x else y
theorem or_two {w : World} {g c : Nat} (x y : Int) (h0 : w.cell? ⟨g, 0, none⟩ = some (.int .i64 x)) (h1 : w.cell? ⟨g, 1, none⟩ = some (.int .i64 y)) :
    Calls Try.prog 55 #[.slice (some ⟨g, 0, none⟩) 2 c] w fun e w' => e = .returned (.int .i64 (orI x y)) ∧ w = w' := by
  unfold orI
  go_enter Try.func55, Try.ntmps55
  go_wp2
  go_loopw [5, 8] (fun _ i wr => ∃ j : Nat, j ≤ 2 ∧ i = .int .i64 j ∧ wr = w ∧ (0 < j → x = 0) ∧ (1 < j → y = 0)) (fun _ i _ => 2 - (RowKit.intOf i).toNat)
  case atStart => exact ⟨0, by omega, rfl, rfl, fun h => absurd h (by omega), fun h => absurd h (by omega)⟩
  case round =>
    obtain ⟨j, hj, rfl, rfl, k0, k1⟩ := hrel
    rcases (show j = 0 ∨ j = 1 ∨ j = 2 by omega) with rfl | rfl | rfl
    · by_cases hx : x = 0
      · subst hx
        go_wp2_with fail
        exact ⟨⟨1, by omega, rfl, trivial, fun _ => trivial, fun h => absurd h (by omega)⟩, by simp [RowKit.intOf]⟩
      · go_wp2
        go_ret
        exact ⟨rfl, rfl⟩
    · obtain rfl : x = 0 := k0 (by omega)
      by_cases hy : y = 0
      · subst hy
        go_wp2_with fail
        exact ⟨⟨2, by omega, rfl, trivial, fun _ => trivial, fun _ => trivial⟩, by simp [RowKit.intOf]⟩
      · go_wp2
        go_ret
        exact ⟨by simp, rfl⟩
    · obtain rfl : x = 0 := k0 (by omega)
      obtain rfl : y = 0 := k1 (by omega)
      go_wp2
      go_ret
      exact ⟨by simp, rfl⟩
set_option maxHeartbeats 1000000 in
theorem byspace_k (a b c d : Int) (w : World) : Calls Try.prog 46 #[.agg #[.int .i64 a, .int .i64 b], .agg #[.int .i64 c, .int .i64 d]] w fun e w' => e = .returned (.int .i64 (byK (a, b) (c, d))) ∧ ∃ q os', w' = Go.Sort.grow (w.drewN q) os' := by
  obtain ⟨W, hW⟩ : ∃ W, W = (w.alloc (.cells #[.int .i64 a, .int .i64 b] 66)).alloc (.cells #[.int .i64 c, .int .i64 d] 66) := ⟨_, rfl⟩
  have r1 : Lrow W w.heap.size 66 [.int .i64 a, .int .i64 b] := by rw [hW]; exact (Lrow.new w _ _).alloc _
  have r2 : Lrow W (w.heap.size + 1) 66 [.int .i64 c, .int .i64 d] := by
    rw [hW]; have := Lrow.new (w.alloc (.cells #[.int .i64 a, .int .i64 b] 66)) 66 [.int .i64 c, .int .i64 d]
    simpa using this
  have HG : Hid (∀ o, ∃ q os', (W.alloc o).drew = Go.Sort.grow (w.drewN q) os') := fun o => ⟨1, _, by
    rw [hW, Go.Sort.alloc_eq_grow, Go.Sort.alloc_eq_grow, Go.Sort.alloc_eq_grow, Go.Sort.grow_grow, Go.Sort.grow_grow]; rfl⟩
  have hs : W.drew.cell? ⟨w.heap.size, 0, none⟩ = some (.int .i64 a) ∧ W.drew.cell? ⟨w.heap.size, 1, none⟩ = some (.int .i64 b) ∧ W.drew.cell? ⟨w.heap.size + 1, 0, none⟩ = some (.int .i64 c) ∧ W.drew.cell? ⟨w.heap.size + 1, 1, none⟩ = some (.int .i64 d) := ⟨r1.cell 0, r1.cell 1, r2.cell 0, r2.cell 1⟩
  have hs2 : ∀ o, (W.alloc o).drew.cell? ⟨w.heap.size, 0, none⟩ = some (.int .i64 a) ∧ (W.alloc o).drew.cell? ⟨w.heap.size, 1, none⟩ = some (.int .i64 b) ∧ (W.alloc o).drew.cell? ⟨w.heap.size + 1, 0, none⟩ = some (.int .i64 c) ∧ (W.alloc o).drew.cell? ⟨w.heap.size + 1, 1, none⟩ = some (.int .i64 d) := fun o => ⟨(r1.alloc o).cell 0, (r1.alloc o).cell 1, (r2.alloc o).cell 0, (r2.alloc o).cell 1⟩
  have HW := Lib.hid hW
  clear r1 r2
  go_enter Try.func46, Try.ntmps46
  go_upto_region 1 with (fail)
  rw [← HW.out]
  clear hW
  go_region_held3 (fun v => v.cell? ⟨w.heap.size, 0, none⟩ = some (.int .i64 a) ∧ v.cell? ⟨w.heap.size, 1, none⟩ = some (.int .i64 b) ∧ v.cell? ⟨w.heap.size + 1, 0, none⟩ = some (.int .i64 c) ∧ v.cell? ⟨w.heap.size + 1, 1, none⟩ = some (.int .i64 d))
    (first | exact hs | exact hs2 _)
    (first | (go_at_call 56; refine (compare_any _ _ _).mono ?_; rintro e w1 ⟨rfl, rfl⟩) | (go_at_call 55; refine (or_two _ _ (by exact (Lrow.new _ _ [_, _]).cell 0) (by exact (Lrow.new _ _ [_, _]).cell 1)).mono ?_; rintro e w1 ⟨rfl, rfl⟩))
  all_goals
    go_wp2
    go_ret
    exact ⟨rfl, HG.out _⟩
theorem cmpK_lays (blk off size : Nat) (w : World) : CmpLays Try.prog 46 #[] EK.enc 2 byK blk off size w :=
  fun _ _ _ _ x y => byspace_k x.1 x.2 y.1 y.2 _
theorem ltOf_K (x y : Int × Int) : ltOf byK x y = decide (ltK x y) := by
  unfold ltOf
  by_cases h : ltK x y
  · rw [decide_eq_true h, decide_eq_true ((byK_lt x y).2 h)]
  · rw [decide_eq_false h, decide_eq_false (fun k => h ((byK_lt x y).1 k))]
theorem swo_K : Go.Sort.SWO (ltOf byK) where
  irrefl x := by rw [ltOf_K]; refine decide_eq_false ?_; unfold ltK; omega
  trans x y z h1 h2 := by rw [ltOf_K] at *; simp only [decide_eq_true_eq] at *; unfold ltK at *; omega
  ntrans x y z h1 h2 := by rw [ltOf_K] at *; simp only [decide_eq_false_iff_not] at *; unfold ltK at *; omega
theorem flatK_get (M : List (Int × Int)) (t : Nat) (h : t < M.length * 2) : (EK.cells M)[t]? = some (Go.Sort.flatK EK.enc 2 M.toArray)[t]! := by
  rw [Go.Sort.get_flatK _ _ _ _ (by simpa using h)]
  have hj : t / 2 < M.length := by omega
  have e := EK.cells_get M hj (t % 2) (by show t % 2 < 2; omega)
  have et : t / 2 * EK.sz + t % 2 = t := by show t / 2 * 2 + t % 2 = t; omega
  rw [et] at e
  have e1 : M.toArray[t / 2]! = M[t / 2] := by rw [getElem!_pos _ _ (by simpa using hj)]; rfl
  rw [e, e1]
  rcases Nat.mod_two_eq_zero_or_one t with h0 | h0 <;> rw [h0] <;> rfl
/-- The sorting of a row of keys. -/
theorem sort_k {w : World} {B : Nat} {A : Option Addr} {c : Nat} {M : List (Int × Int)} (h : EK.Own B w (.slice A M.length c) M) (hm : M.length ≤ 10000) :
    Calls Try.prog 53 #[.slice A M.length c, .func (.func 46) #[] #[]] w fun e w' => ∃ M', e = .returned (.tuple #[]) ∧ M'.length = M.length ∧ EK.Own B w' (.slice A M.length c) M' ∧ M'.Perm M ∧ M'.Pairwise (fun x y => ¬ ltK y x) ∧ (B ≤ w.heap.size → Below B w w') := by
  by_cases h0 : 0 < M.length
  · obtain ⟨g, rfl, hB, hlt, -, -⟩ := h.some_ h0
    obtain ⟨rest, r, -, hc1, hc2, hc3⟩ := own_row h rfl
    have eg : ∀ args w, (callFunc 46 args).run Try.prog w = .ok (.enter 46 args) w := enters_of Try.func46 (by kernel_rfl) rfl
    have hcl : (EK.cells M).length = M.length * 2 := EK.cells_length M
    have hH : Go.Sort.HoldsK EK.enc 2 w g 0 M.toArray := fun j hj => by
      have hj' : j < M.length * 2 := by simpa using hj
      rw [Nat.zero_add]
      refine ⟨?_, r.frozen j⟩
      rw [r.cell, List.getElem?_append_left (by rw [hcl]; exact hj')]
      exact flatK_get M j hj'
    have hcon := AnyQ.slices_SortFunc Try.sortB 2 Try.isAgg66 Try.sizeOf66 EK.enc (fun _ => rfl) EK.one byK swo_K 46 #[] g 0 c M.toArray w eg (cmpK_lays g 0 _ w) hH r.lt (by simp; omega)
    change Calls Try.prog 53 _ _ _ at hcon
    rw [List.size_toArray] at hcon
    refine hcon.mono ?_
    rintro e w' ⟨rfl, d', q, os, hp, hs, rfl⟩
    have hsz : d'.size = M.length := by simpa using hp.1
    have hd : d' = d'.toList.toArray := by simp
    have hl : d'.toList.length = M.length := by simpa using hsz
    have hrow : (sortWorldK EK.enc 2 w g 0 q d' os).heap[g]? = some (.cells (Go.Sort.putCells id 0 (Go.Sort.flatK EK.enc 2 d') (EK.cells M ++ rest).toArray) 66 (0, 0)) := by
      unfold Lrow at r
      unfold sortWorldK Go.Sort.grow Go.Sort.putRowK Go.Sort.putRow Go.Sort.mapBlock
      rw [Array.getElem?_append_left (by simpa [Go.Sort.ahead] using hlt), Array.getElem?_modify]
      simp only [if_true]
      have : (Go.Sort.ahead w q).heap[g]? = w.heap[g]? := rfl
      rw [this, r]
      simp [Go.Sort.onCells]
      rfl
    refine ⟨d'.toList, rfl, hl, ?_, ?_, ?_, fun hBs => ?_⟩
    · have hown : (sortWorldK EK.enc 2 w g 0 q d' os).ownsRow B EK.el EK.sz (.slice (some ⟨g, 0, none⟩) M.length c) d'.toList.length (EK.cells d'.toList) := by
        rw [hl]
        refine ⟨by rw [EK.cells_length, hl], Or.inr ⟨g, c, _, rfl, hB, hrow, hc1, hc2, ?_, ?_⟩⟩
        · simp only [Go.Sort.putCells, Array.size_mapIdx, List.size_toArray, List.length_append]
          exact hc3
        · apply List.ext_getElem?
          intro i
          by_cases hi : i < M.length * 2
          · rw [List.getElem?_take_of_lt (by exact hi)]
            have h1 := flatK_get d'.toList i (by rw [hl]; exact hi)
            rw [← hd] at h1
            rw [h1]
            simp only [Go.Sort.putCells, Array.toList_mapIdx, List.getElem?_mapIdx]
            rw [List.getElem?_eq_getElem (by simp only [List.length_append, hcl]; omega)]
            simp only [Option.map_some]
            rw [if_pos (by simp; omega)]
            simp
          · rw [List.getElem?_eq_none (by rw [List.length_take]; change min (M.length * 2) _ ≤ i; omega), List.getElem?_eq_none (by rw [EK.cells_length, hl]; exact Nat.le_of_not_lt hi)]
      exact hown
    · have h3 := hp.2.2
      have e1 : (d'.extract 0 M.length).toList = d'.toList := by rw [← hsz]; simp
      have e2 : (M.toArray.extract 0 M.length).toList = M := by simp
      rw [e1, e2] at h3
      exact h3
    · rw [List.pairwise_iff_getElem]
      intro i j hi hj hij
      have h4 := hs i j (Nat.zero_le _) hij (by rw [← hl]; exact hj)
      rw [ltOf_K, decide_eq_false_iff_not] at h4
      rw [getElem!_pos d' i (by simpa using hi), getElem!_pos d' j (by simpa using hj)] at h4
      simp only [Array.getElem_toList]
      exact h4
    · refine ⟨rfl, rfl, rfl, ?_, fun k hk => ?_⟩
      · unfold sortWorldK Go.Sort.grow Go.Sort.putRowK Go.Sort.putRow Go.Sort.mapBlock
        simp [Go.Sort.ahead]
      · unfold sortWorldK Go.Sort.grow Go.Sort.putRowK Go.Sort.putRow Go.Sort.mapBlock
        rw [Array.getElem?_append_left (by simp [Go.Sort.ahead]; omega), Array.getElem?_modify, if_neg (by omega)]
        rfl
  · have hM : M = [] := List.length_eq_zero_iff.1 (by omega)
    subst hM
    have hcon := AnyF.slices_SortFunc_none Try.sortB A c (.func (.func 46) #[] #[]) w
    change Calls Try.prog 53 _ _ _ at hcon
    refine hcon.mono ?_
    rintro e w' ⟨rfl, rfl⟩
    exact ⟨[], rfl, rfl, h, List.Perm.refl _, List.Pairwise.nil, fun _ => Below.refl _ _⟩
/-- The list of all keys, as the map has them. -/
def keysR (L : List Rv) : List (Int × Int) := L.map fun x => (x.s, x.p)
theorem keysR_of {S : Rs} {n : Nat} (hb : Bnd n S) {ss M : List (Int × Int)} {a : Int → Int → Nat} (h1 : ss.Nodup) (h2 : ∀ k, k ∈ ss ↔ (FitM k.1 ∧ FitM k.2) ∧ sayK S.L a k ≠ none) (hp : M.Perm ss) (hs : M.Pairwise fun x y => ¬ ltK y x) : M = keysR S.L ∧ ss.length = S.L.length := by
  have hup : (keysR S.L).Pairwise ltK := List.pairwise_map.2 (hb.up.imp fun h => h)
  have hnd : (keysR S.L).Nodup := hup.imp fun {x y} h e => by subst e; unfold ltK at h; omega
  have hmem : ∀ k, k ∈ ss ↔ k ∈ keysR S.L := fun k => by
    rw [h2 k]
    unfold sayK keysR
    rw [List.mem_map]
    constructor
    · rintro ⟨_, hne⟩
      cases hf : S.L.find? (fun x => decide (x.s = k.1 ∧ x.p = k.2)) with
      | none => rw [hf] at hne; exact absurd rfl hne
      | some x =>
        have := List.find?_some hf
        simp only [decide_eq_true_eq] at this
        exact ⟨x, List.mem_of_find?_eq_some hf, Prod.ext this.1 this.2⟩
    · rintro ⟨x, hx, rfl⟩
      have ok := hb.ok x hx
      refine ⟨⟨by have := ok.s0; have := ok.s1; show FitM x.s; unfold FitM; omega, by have := ok.p0; have := ok.p1; show FitM x.p; unfold FitM; omega⟩, fun e => ?_⟩
      rw [Option.map_eq_none_iff, List.find?_eq_none] at e
      exact e x hx (decide_eq_true ⟨rfl, rfl⟩)
  have hpp : M.Perm (keysR S.L) := hp.trans ((List.perm_ext_iff_of_nodup h1 hnd).2 hmem)
  refine ⟨List.Perm.eq_of_pairwise (le := fun x y => ¬ ltK y x) (fun x y _ _ a b => ?_) hs (hup.imp fun {x y} h => ?_) hpp, by rw [← hp.length_eq, hpp.length_eq]; unfold keysR; rw [List.length_map]⟩
  · unfold ltK at a b
    exact Prod.ext (by omega) (by omega)
  · unfold ltK at h ⊢; omega
section
variable {w w' : World} {B : Nat} {T : ObT} {S S' : Rs} {n : Nat} {s p f : Int}
set_option maxRecDepth 100000 in
set_option maxHeartbeats 2000000 in
theorem keys_r (h : ObAt B w T S) (hb : Bnd n S) (hn : n ≤ 900) : Calls Try.prog 26 #[.pointer (some ⟨T.s, 0, none⟩)] w fun e w' => ∃ A c, e = .returned (.slice A S.L.length c) ∧ EK.Own w.heap.size w' (.slice A S.L.length c) (keysR S.L) ∧ Below w.heap.size w w' := by
  obtain ⟨D0, hown, hD⟩ := h.kept
  have hsz : Maps.size D0 ≤ 900 := by
    obtain ⟨es, clock, e1, e2, e3, e4⟩ := hown
    have := sizeM e4
    have := hb.t1
    omega
  have c0 := h.c0
  have hbl := hown.lt
  have HLK : Hid (∀ ss left M, TK.Gone D0 left ss → (∀ kl, left kl = false) → M.Perm ss → M.Pairwise (fun x y => ¬ ltK y x) → M = keysR S.L ∧ ss.length = S.L.length) := fun ss left M h1 h2 h3 h4 => by
    obtain ⟨g1, g2⟩ := h1.all hD h2
    exact keysR_of hb g1 g2 h3 h4
  have HLN2 : Hid (∀ ss left, TK.Gone D0 left ss → (∀ kl, left kl = false) → ss.length = S.L.length) := fun ss left h1 h2 => by
    have hm := List.mergeSort_perm ss (fun x y => !decide (ltK y x))
    refine (HLK.out ss left _ h1 h2 hm ?_).2
    have := List.pairwise_mergeSort (le := fun x y => !decide (ltK y x)) (fun a b c e1 e2 => by
      simp only [Bool.not_eq_true', decide_eq_false_iff_not] at *; unfold ltK at *; omega) (fun a b => by
      simp only [Bool.or_eq_true, Bool.not_eq_true', decide_eq_false_iff_not]; unfold ltK; omega) ss
    exact this.imp fun {x y} e => by simpa using e
  have HLN : Hid ((keysR S.L).length = S.L.length) := by show _ = _; unfold keysR; rw [List.length_map]
  have HLL : Hid (S.L.length ≤ 900) := Nat.le_trans hb.ln hn
  refine (callsIn_wide (n := 6)).1 ?_
  have hseq : SeqGives Fence.wide 2 Try.prog 54 #[.pointer (some ⟨w.heap.size, 0, none⟩)] kvK (fun ss => ∃ left, TK.Gone D0 left ss ∧ ∀ kl, left kl = false) (Maps.size D0) (w.alloc (.cells #[.map (some T.bk)] 71)) := fun l J W hW hJ hY h0 => by
    have hm : W.cell? ⟨w.heap.size, 0, none⟩ = some (.map (some T.bk)) := ((Lrow.new w 71 [.map (some T.bk)]).call hW).cell 0
    have hown' : W.ownsMap Try.prog 66 heldM T.bk S.T.toNat D0 := by
      obtain ⟨es, clock, hbb, r⟩ := hown
      exact ⟨es, clock, ((hW.block T.bk (by simp; omega)).trans (Below.heap_alloc _ _ T.bk hbl)).trans hbb, r⟩
    refine (iter_in Fence.wide 2 trivial rfl (by omega) l w.heap.size T.bk S.T.toNat D0 J hY W hJ hm hown' h0).mono ?_
    rintro e w' ⟨a, ss, left, b1, b2, b3⟩
    exact ⟨a, ss, ⟨left, b1, b2⟩, b3⟩
  have cC := collect_k Fence.wide 4 trivial trivial rfl (by omega) 54 #[.pointer (some ⟨w.heap.size, 0, none⟩)] trivial (enters_of Try.func54 (by kernel_rfl) rfl) _ (Maps.size D0) (by omega) _ hseq
  have cK : ∀ mb W, CallsIn Fence.wide 5 Try.prog 45 #[.map mb] W fun e w' => e = .returned (.func (.func 54) #[] #[.pointer (some ⟨W.heap.size, 0, none⟩)]) ∧ w' = W.alloc (.cells #[.map mb] 71) := fun mb W => callsIn_wide.2 (by
    go_enter Try.func45, Try.ntmps45
    go_wp2
    go_ret
    exact ⟨rfl, rfl⟩)
  obtain ⟨W1, hW1⟩ : ∃ W1, W1 = w.alloc (.cells #[.map (some T.bk)] 71) := ⟨_, rfl⟩
  have b1 : Below w.heap.size w W1 := by rw [hW1]; exact below_new _ _
  rw [← hW1] at cC
  have HW1 := Lib.hid hW1
  clear hW1
  have hfC : Fence.wide.fn 52 := trivial
  have hfT : Fence.wide.fn 53 := trivial
  have hfK : Fence.wide.fn 45 := trivial
  have hfS : Fence.wide.fn 44 := trivial
  have cS : CallsIn Fence.wide 5 Try.prog 44 #[.func (.func 54) #[] #[.pointer (some ⟨w.heap.size, 0, none⟩)], .func (.func 46) #[] #[]] W1 fun e w' => ∃ A c, e = .returned (.slice A S.L.length c) ∧ EK.Own w.heap.size w' (.slice A S.L.length c) (keysR S.L) ∧ Below w.heap.size w w' := by
    refine callsIn_of_wp Try.func44 rfl trivial ?_ rfl
    simp only [Try.ntmps44, List.size_toArray, List.length_cons, List.length_nil, Nat.reduceAdd, Nat.reduceSub, Array.replicate_succ, Array.replicate_zero, List.push_toArray, List.append_toArray, List.nil_append, List.cons_append]
    have cT : ∀ (W2 : World) (A : Option Addr) (c : Nat) (ss : List (Int × Int)), EK.Own W1.heap.size W2 (.slice A ss.length c) ss → ss.length ≤ 10000 → CallsIn Fence.wide 4 Try.prog 53 #[.slice A ss.length c, .func (.func 46) #[] #[]] W2 _ := fun W2 A c ss ho hl => callsIn_wide.2 (sort_k ho hl)
    clear cK hseq hown hD c0
    gi_wp2_with (first
      | (gi_at_call 52; refine cC.mono ?_; rintro e W2 ⟨A, c, ss, rfl, ⟨left, g1, g2⟩, ho, hb2⟩; have HO := Lib.hid (And.intro g1 (And.intro g2 (And.intro ho hb2))); clear g1 g2 ho hb2)
      | (gi_at_call 53; refine (cT _ _ _ _ HO.out.2.2.1 (by have := HLN2.out ss left HO.out.1 HO.out.2.1; have := HLL.out; omega)).mono ?_; rintro e W3 ⟨M', rfl, hl3, ho3, hp3, hs3, hb3⟩))
    go_ret
    obtain ⟨e1, e2⟩ := HLK.out ss left M' HO.out.1 HO.out.2.1 hp3 hs3
    rw [e1, e2] at ho3
    have hb2 := HO.out.2.2.2
    refine ⟨A, c, by rw [e2]; rfl, ho3.base b1.size, b1.trans ((hb2.mono b1.size).trans ((hb3 hb2.size).mono b1.size))⟩
  refine callsIn_of_wp Try.func26 rfl trivial ?_ rfl
  simp only [Try.ntmps26, List.size_toArray, List.length_cons, List.length_nil, Nat.reduceAdd, Nat.reduceSub, Array.replicate_succ, Array.replicate_zero, List.push_toArray, List.append_toArray, List.nil_append, List.cons_append]
  clear cC hseq hown hD
  gi_wp2_with (first
    | (gi_at_call 45; refine (cK _ _).mono ?_; rintro e w' ⟨rfl, hw'⟩; rw [← HW1.out] at hw'; subst hw')
    | (gi_at_call 44; refine cS.mono ?_; rintro e w' ⟨A, c, rfl, ho, hb2⟩))
  go_ret
  exact ⟨A, c, rfl, ho, hb2⟩
end
end Go.Proofs.Ytfalmjibpkkjaaa
