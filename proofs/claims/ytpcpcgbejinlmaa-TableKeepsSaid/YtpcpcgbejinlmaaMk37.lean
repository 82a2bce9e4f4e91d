/- What Unmap does to two trees and a bag. -/
import Derived.Test.YtpcpcgbejinlmaaMk31
import Derived.Test.YtpcpcgbejinlmaaMk22
import Derived.Test.YtpcpcgbejinlmaaMk16
namespace Go.Proofs.Ytpcpcgbejinlmaa
open Go.RowKit
theorem unmap_inv {ws L R : List Int} {r q p o : Int} (h : Inv ws L r q) (hE : uzE ws R r p o = 0) : Stp ws L (uzN ws r p).1 (uzL ws L r p) r q := by
  unfold uzE at hE
  split at hE
  · unfold fjE at hE
    split at hE
    · rename_i he
      obtain ⟨hp, hlen, hlv, hnod, hsay, -⟩ := fol_end he
      obtain ⟨g1, -⟩ := fol_wk (ws := ws) (r := r) (p := p) (by omega)
      have h5 : (wk ws p 3 r).er ≠ 5 := by rw [← g1]; omega
      obtain ⟨p1, p2, p3, p4, p5⟩ := h.parts
      have s1 := h.turn (y := 0) hnod (by rw [hsay]; decide) ⟨by rw [say_zero]; decide, by rw [say_zero]; decide⟩
      obtain ⟨i, hi, hi8⟩ := dg_nat p (fol ws r p).lv
      have hin := h.inT (nod_mem 3 r _ _ hnod).2 hi8
      have ho := wd_put (v := 0) hin
      unfold uzL uzN
      rw [hi] at s1 ⊢
      obtain ⟨k, hk⟩ : ∃ k, k = (fol ws r p).ts.length - 1 := ⟨_, rfl⟩
      rw [← hk]
      have hget : ∀ j, j ≤ k → (wk ws p 3 r).ts[j]? = some ((fol ws r p).ts.getD j 0) := fun j hj => by
        rw [g1, List.getD_eq_getElem?_getD, List.getElem?_eq_getElem (by rw [← g1]; omega)]; rfl
      have hnj : ∀ j, j ≤ k → nod ws p 3 r (3 - j) = some ((fol ws r p).ts.getD j 0) := fun j hj => (nod_ts 3 r h5 j _ (hget j hj)).2
      have s2 := unC_inv hp (fol ws r p).ts k _ L (by omega) (by omega) s1.1 (fun j hj => by
        rw [nod_above ho 3 r hnod p2 (by omega) (by omega)]
        exact hnj j hj) (fun j hj => by
        have hne : (fol ws r p).ts.getD j 0 ≠ lastT (fol ws r p) := fun e => by
          have h1 := hnj j (by omega)
          rw [e] at h1
          have := nod_inj 3 r p2 h1 hnod
          omega
        obtain ⟨i', hi', hi8'⟩ := dg_nat p (3 - j)
        rw [hi', ho.else_ _ i' hi8' (fun e => hne e.1), ho.ff, ← hi']
        exact (ts_link 3 r h5 j _ _ (hget j (by omega)) (hget (j + 1) (by omega))).2)
      have ht : (fol ws r p).ts.take (k + 1) = (fol ws r p).ts := List.take_of_length_le (by omega)
      rw [ht] at s2
      exact s1.trans s2
    · rename_i he; exact absurd hE he
  · rename_i hz; exact absurd hE hz
end Go.Proofs.Ytpcpcgbejinlmaa
/- The way through tables that Leaves goes. -/
namespace Go.Proofs.Ytpcpcgbejinlmaa
open Go.RowKit
structure ThL (w W : World) (s : Seat) (b3 b4 b5 b6 bl : Nat) (acc : List Mp) : Prop where
  bel : Below w.heap.size w W
  r3 : Row W b3 92 [.func (.func 34) #[] #[]]
  r4 : Row W b4 34 [.pointer (some ⟨s.x, 0, none⟩)]
  r5 : Row W b5 95 [.func (.func 35) #[] #[.pointer (some ⟨bl, 0, none⟩)]]
  r6 : Row W b6 116 [.func (.func 56) #[] #[.pointer (some ⟨b3, 0, none⟩), .pointer (some ⟨b4, 0, none⟩), .pointer (some ⟨b5, 0, none⟩), .pointer (some ⟨b6, 0, none⟩)]]
  lo : w.heap.size ≤ bl
  acc : ∃ vl, Row W bl 53 [vl] ∧ Ms W w.heap.size vl acc
theorem ThL.call {w W W' : World} {s : Seat} {b3 b4 b5 b6 bl : Nat} {acc : List Mp} (h : ThL w W s b3 b4 b5 b6 bl acc) (hb : Below W.heap.size W W') : ThL w W' s b3 b4 b5 b6 bl acc := by
  obtain ⟨vl, h1, h2⟩ := h.acc
  exact ⟨h.bel.trans (hb.mono h.bel.size), h.r3.below hb h.r3.lt, h.r4.below hb h.r4.lt, h.r5.below hb h.r5.lt, h.r6.below hb h.r6.lt, h.lo, vl, h1.below hb h1.lt, h2.call hb⟩
set_option maxHeartbeats 1000000 in
theorem thLeaf {w W : World} {s : Seat} {b3 b4 b5 b6 bl : Nat} {acc : List Mp} (h : ThL w W s b3 b4 b5 b6 bl acc) (hn : acc.length ≤ 5000) (m : Mp) : Calls Try.prog 35 #[.agg (mcell m).toArray, .pointer (some ⟨bl, 0, none⟩)] W fun e W' => e = .returned (.tuple #[]) ∧ ThL w W' s b3 b4 b5 b6 bl (acc ++ [m]) := by
  obtain ⟨vl, h1, h2⟩ := h.acc
  obtain ⟨W1, hW1⟩ : ∃ W1, W1 = W.alloc (.cells (mcell m).toArray 94) := ⟨_, rfl⟩
  have b1 : Below W.heap.size W W1 := by rw [hW1]; exact below_new W _ (mcell m)
  obtain ⟨q, hq⟩ : ∃ q, q = W.heap.size := ⟨_, rfl⟩
  have m1 : Row W1 q 94 (mcell m) := by rw [hW1, hq]; exact Row.new W _ (mcell m)
  have T1 := h.call b1
  obtain ⟨A, c, rfl⟩ := h2.form
  have h21 := h2.call b1
  obtain ⟨A5, c5, W5, r5, o5, g5⟩ := h21.app T1.bel.size (by omega) m
  have hl := h1.below b1 h1.lt
  have hne : some bl ≠ (Value.slice A acc.length c).ownBlock := fun e => by
    obtain ⟨-, hlt⟩ := World.ownsRow.lt h21 bl e.symm
    rcases h21.2 with ⟨e1, _⟩ | ⟨g, cap, cur, e1, _, hc, _⟩
    · rw [e1] at e; cases e
    · rw [e1] at e; injection e with e; subst e
      unfold Row at hl
      rw [hl] at hc; injection hc with hc; injection hc with _ hc; exact absurd hc (by decide)
  have hfar : ∀ {b : Nat} {t : TypeId} {vs : List Value}, Row W1 b t vs → t ≠ 94 → Row W5 b t vs := fun r ht => r.grown g5 (fun e => by
    rcases h21.2 with ⟨e1, _⟩ | ⟨g, cap, cur, e1, _, hc, _⟩
    · rw [e1] at e; cases e
    · rw [e1] at e; injection e with e; subst e
      unfold Row at r
      rw [r] at hc; injection hc with hc; injection hc with _ hc; exact ht hc)
  have l5 := hl.grown g5 hne
  have hlo := h.lo
  have B5 := T1.bel.grown g5 T1.bel.size (fun r e => (World.ownsRow.lt h21 r e).1)
  obtain ⟨W6, hW6⟩ : ∃ W6, W6 = W5.setCell ⟨bl, 0, none⟩ (.slice A5 (acc.length + 1) c5) := ⟨_, rfl⟩
  have hT6 : Hid (ThL w W6 s b3 b4 b5 b6 bl (acc ++ [m])) := by
    have e3 : b3 ≠ bl := (hfar T1.r3 (by decide)).apart l5 (by decide)
    have e4 : b4 ≠ bl := (hfar T1.r4 (by decide)).apart l5 (by decide)
    have e5 : b5 ≠ bl := (hfar T1.r5 (by decide)).apart l5 (by decide)
    have e6 : b6 ≠ bl := (hfar T1.r6 (by decide)).apart l5 (by decide)
    rw [hW6]
    refine ⟨B5.setCell (p := ⟨bl, 0, none⟩) hlo _, (hfar T1.r3 (by decide)).far (p := ⟨bl, 0, none⟩) e3 _, (hfar T1.r4 (by decide)).far (p := ⟨bl, 0, none⟩) e4 _, (hfar T1.r5 (by decide)).far (p := ⟨bl, 0, none⟩) e5 _, (hfar T1.r6 (by decide)).far (p := ⟨bl, 0, none⟩) e6 _, hlo, .slice A5 (acc.length + 1) c5, l5.set_ 0 _, ?_⟩
    have o6 := o5
    unfold Ms at o6 ⊢
    rw [List.length_append] at o6 ⊢
    exact own_keep o6 fun b hb => Below.heap_setCell W5 _ _ b (by
      rintro rfl
      rcases o6.2 with ⟨e1, _⟩ | ⟨g, cap, cur, e1, _, hc, _⟩
      · rw [e1] at hb; cases hb
      · rw [e1] at hb; injection hb with hb; subst hb
        unfold Row at l5
        rw [l5] at hc; injection hc with hc; injection hc with _ hc; exact absurd hc (by decide))
  have c0 : W1.cell? ⟨bl, 0, none⟩ = some (.slice A acc.length c) := hl.cell 0
  have f5 : W5.frozen? ⟨bl, 0, none⟩ = false := l5.frozen 0
  have d5 : W5.cell? ⟨bl, 0, none⟩ = some (.slice A acc.length c) := l5.cell 0
  obtain ⟨n, hn⟩ : ∃ n, n = acc.length := ⟨_, rfl⟩
  simp only [mcell] at r5
  have c1 : W1.cell? ⟨q, 0, none⟩ = some (.int .i64 m.g) := m1.cell 0
  have c2 : W1.cell? ⟨q, 1, none⟩ = some (.int .i64 m.o) := m1.cell 1
  have c3 : W1.cell? ⟨q, 2, none⟩ = some (.int .i64 m.f) := m1.cell 2
  have c4 : W1.cell? ⟨q, 3, none⟩ = some (.bool m.p) := m1.cell 3
  have c5' : W1.cell? ⟨q, 4, none⟩ = some (.bool m.w) := m1.cell 4
  have c6 : W1.cell? ⟨q, 5, none⟩ = some (.bool m.h) := m1.cell 5
  have c7 : W1.cell? ⟨q, 6, none⟩ = some (.bool m.k) := m1.cell 6
  have c8 : W1.cell? ⟨q, 7, none⟩ = some (.bool m.u) := m1.cell 7
  have c9 : W1.cell? ⟨q, 8, none⟩ = some (.bool m.d) := m1.cell 8
  unfold mcell at hW1 ⊢
  have HW1 := Lib.hid hW1
  have HQ := Lib.hid hq
  have HW6 := Lib.hid hW6
  rw [← hn] at r5 c0 d5 HW6
  clear hW1 hq hW6 hn h h1 h2 h21 T1 hl l5 B5 hfar hne o5 g5 m1 b1 hlo
  go_enter Try.func35, Try.ntmps35
  go_upto_region 1 with (fail)
  rw [← HW1.out, ← HQ.out]
  go_wp2_with (at_builtin; refine wpList_append_run rfl _ _ 53 rfl (.slice A n c) (.slice (some ⟨W1.heap.size, 0, none⟩) 1 1) rfl rfl r5 ?_)
  go_end0
  exact ⟨rfl, by rw [← HW6.out]; exact hT6.out⟩
theorem thTab {w W : World} {s : Seat} {b3 b4 b5 b6 bl : Nat} {acc : List Mp} (h : ThL w W s b3 b4 b5 b6 bl acc) (t : Int) : Calls Try.prog 34 #[.int .i64 t] W fun e W' => e = .returned (.tuple #[]) ∧ ThL w W' s b3 b4 b5 b6 bl acc := by
  go_enter Try.func34, Try.ntmps34
  go_wp2
  go_end0
  exact ⟨rfl, h⟩
theorem sayB_leaf {F l f : Int} {p w h k u d : Bool} (h0 : sayB F l true f p w h k u d ≠ 0) (hn : noB f p w h k u d = false) (hl : l = 0 ∨ h = true) : sayB F l true f p w h k u d = 3 := by
  unfold sayB at h0 ⊢
  rw [if_neg (by simp)] at h0 ⊢
  split
  · rename_i h1; rw [if_pos h1] at h0; exact absurd rfl h0
  · rename_i h1
    rw [if_neg h1] at h0
    split
    · rename_i h2; rw [if_pos h2] at h0; exact absurd rfl h0
    · rename_i h2
      rw [if_neg h2, if_neg (by simp [hn])] at h0
      rw [if_neg (by simp [hn])]
      split
      · rename_i h3; rw [if_pos h3] at h0; exact absurd rfl h0
      · first | rfl | rw [if_pos hl]
theorem sayB_on {F l f : Int} {p w h k u d : Bool} (h0 : sayB F l true f p w h k u d ≠ 0) (hn : noB f p w h k u d = false) (hl : ¬ (l = 0 ∨ h = true)) : sayB F l true f p w h k u d = 2 := by
  unfold sayB at h0 ⊢
  rw [if_neg (by simp)] at h0 ⊢
  split
  · rename_i h1; rw [if_pos h1] at h0; exact absurd rfl h0
  · rename_i h1
    rw [if_neg h1] at h0
    split
    · rename_i h2; rw [if_pos h2] at h0; exact absurd rfl h0
    · rename_i h2
      rw [if_neg h2, if_neg (by simp [hn])] at h0
      rw [if_neg (by simp [hn])]
      split
      · rename_i h3; rw [if_pos h3] at h0; exact absurd rfl h0
      · first | rfl | rw [if_neg hl]
def mpOf (x : Int × Nat × Int) : Mp := ⟨x.1, x.2.1 * 3, unF x.2.2, unB x.2.2 0, unB x.2.2 1, unB x.2.2 7, unB x.2.2 9, unB x.2.2 5, unB x.2.2 6⟩
def addL (ws : List Int) (l : Nat) (x b : Int) : List Mp := if say (FF ws) l x = 3 then [mpOf (b, l, x)] else match l with | 0 => [] | l' + 1 => if say (FF ws) ((l' + 1 : Nat) : Int) x = 2 then (lvs ws l' (unF x) b).map mpOf else []
theorem addL_leaf {ws : List Int} {l : Nat} {x b : Int} (h : say (FF ws) l x = 3) : addL ws l x b = [mpOf (b, l, x)] := by unfold addL; rw [if_pos h]
theorem addL_on {ws : List Int} {l : Nat} {x b : Int} (h : say (FF ws) ((l + 1 : Nat) : Int) x = 2) : addL ws (l + 1) x b = (lvs ws l (unF x) b).map mpOf := by
  unfold addL
  rw [if_neg (by rw [h]; omega)]
  simp only
  rw [if_pos h]
theorem addL_zero {ws : List Int} {x b : Int} (h : ¬ say (FF ws) 0 x = 3) : addL ws 0 x b = [] := by
  unfold addL
  exact if_neg h
theorem addL_none {ws : List Int} {l : Nat} {x b : Int} (h : ¬ say (FF ws) l x = 3) (h2 : ¬ say (FF ws) l x = 2) : addL ws l x b = [] := by
  cases l with
  | zero => exact addL_zero h
  | succ l =>
    unfold addL
    rw [if_neg h]
    simp only
    rw [if_neg h2]
def upL (ws : List Int) (l : Nat) (t b : Int) (j : Nat) : List Mp := (List.range j).flatMap fun i : Nat => addL ws l (wd ws t (i : Int)) (b + i * 8 ^ l)
theorem upL_succ (ws : List Int) (l : Nat) (t b : Int) (j : Nat) : upL ws l t b (j + 1) = upL ws l t b j ++ addL ws l (wd ws t (j : Int)) (b + j * 8 ^ l) := by simp [upL, List.range_succ]
theorem upL_all (ws : List Int) (l : Nat) (t b : Int) : upL ws l t b 8 = (lvs ws l t b).map mpOf := by
  cases l with
  | zero =>
    unfold upL lvs
    rw [List.map_flatMap]
    refine flat_congr' fun i _ => ?_
    have e : b + (i : Int) * 8 ^ 0 = b + i := by simp
    by_cases h : say (FF ws) 0 (wd ws t (i : Int)) = 3
    · rw [if_pos h, addL_leaf (l := 0) h, e]; rfl
    · rw [if_neg h, addL_zero h]; rfl
  | succ l =>
    unfold upL lvs
    rw [List.map_flatMap]
    refine flat_congr' fun i _ => ?_
    by_cases h : say (FF ws) ((l + 1 : Nat) : Int) (wd ws t (i : Int)) = 3
    · rw [if_pos h, addL_leaf h]; rfl
    · rw [if_neg h]
      by_cases h2 : say (FF ws) ((l + 1 : Nat) : Int) (wd ws t (i : Int)) = 2
      · rw [if_pos h2, addL_on h2]
      · rw [if_neg h2, addL_none h h2]; rfl
theorem flat_len {α : Type} {f : Nat → List α} {k : Nat} : ∀ (n : Nat), (∀ i, i < n → (f i).length ≤ k) → ((List.range n).flatMap f).length ≤ n * k := by
  intro n
  induction n with
  | zero => intro _; simp
  | succ n ih =>
    intro h
    rw [List.range_succ, List.flatMap_append, List.length_append]
    have h1 := ih fun i hi => h i (by omega)
    have h2 := h n (by omega)
    simp only [List.flatMap_cons, List.flatMap_nil, List.append_nil]
    rw [Nat.add_mul, Nat.one_mul]
    exact Nat.add_le_add h1 h2
theorem lvs_len (ws : List Int) : ∀ (l : Nat) (t b : Int), (lvs ws l t b).length ≤ 8 ^ (l + 1) := by
  intro l
  induction l with
  | zero =>
    intro t b
    unfold lvs
    refine Nat.le_trans (flat_len (k := 1) 8 fun i _ => ?_) (by simp)
    split <;> simp
  | succ l ih =>
    intro t b
    unfold lvs
    refine Nat.le_trans (flat_len (k := 8 ^ (l + 1)) 8 fun i _ => ?_) (by have e : (8 : Nat) ^ (l + 1 + 1) = 8 ^ (l + 1) * 8 := Nat.pow_succ 8 (l + 1); rw [e, Nat.mul_comm]; exact Nat.le_refl _)
    split
    · show 1 ≤ _; exact Nat.pos_of_ne_zero (by simp)
    · split
      · exact ih _ _
      · simp
theorem addL_len (ws : List Int) (l : Nat) (x b : Int) : (addL ws l x b).length ≤ 8 ^ l := by
  unfold addL
  split
  · show 1 ≤ _; exact Nat.pos_of_ne_zero (by simp)
  · cases l with
    | zero => simp
    | succ l =>
      simp only
      split
      · rw [List.length_map]; exact lvs_len ws l _ _
      · simp
theorem upL_len (ws : List Int) (l : Nat) (t b : Int) (j : Nat) : (upL ws l t b j).length ≤ j * 8 ^ l := flat_len j fun _ _ => addL_len ..
section
variable {w w0 : World} {s : Seat} {v : Value} {ws L R : List Int} {b3 b4 b5 b6 bl : Nat}
set_option maxRecDepth 100000 in
set_option maxHeartbeats 1000000 in
theorem belowL0 {W : World} {acc : List Mp} (hT : Tab w s v ws L R) (h : ThL w W s b3 b4 b5 b6 bl acc) (t b : Int) (hg : Good ws 0 t) (hlen : ws.length = 4096) (b0 : 0 ≤ b) (b1 : b + 8 ≤ 4096) (hbd : acc.length + 8 ≤ 5000) :
    Calls Try.prog 56 #[.int .i64 t, .int .i64 0, .int .i64 b, .pointer (some ⟨b3, 0, none⟩), .pointer (some ⟨b4, 0, none⟩), .pointer (some ⟨b5, 0, none⟩), .pointer (some ⟨b6, 0, none⟩)] W fun e W' => e = .returned (.tuple #[]) ∧ ThL w W' s b3 b4 b5 b6 bl (acc ++ (lvs ws 0 t b).map mpOf) := by
  have hfr := hg.frame
  have hFF : FF ws = 512 := by unfold FF; rw [hlen]; rfl
  have HT := Lib.hid hT
  have HGD := Lib.hid hg
  have HB0 := Lib.hid (And.intro b0 b1)
  have HLEN := Lib.hid hlen
  have HBD := Lib.hid hbd
  have HFF := Lib.hid hFF
  have HFR := Lib.hid hfr
  have c3 : W.cell? ⟨b3, 0, none⟩ = some (.func (.func 34) #[] #[]) := h.r3.cell 0
  have htab := thTab h t
  clear hT hg hlen hbd hFF hfr h
  go_enter Try.func56, Try.ntmps56
  go_wp2_with fail
  refine htab.mono ?_
  rintro e W1 ⟨rfl, h1⟩
  have H1 := Lib.hid h1
  clear htab c3 h1
  go_wp2_with fail
  go_loopw [20] (fun i wx => ∃ j : Nat, j ≤ 8 ∧ i = .int .i64 j ∧ ThL w wx s b3 b4 b5 b6 bl (acc ++ upL ws 0 t b j)) (fun i _ => 8 - (intOf i).toNat)
  case atStart => exact ⟨0, by omega, rfl, by simpa [upL] using H1.out⟩
  case round =>
    obtain ⟨j, hj, rfl, hh⟩ := hrel
    by_cases hj8 : j < 8
    · obtain ⟨x, ex⟩ : ∃ x, x = wd ws t (j : Int) := ⟨_, rfl⟩
      have hT9 := HT.out.call hh.bel
      have hin : inT 4096 t j = true := by
        have h1 := HFR.out.1
        have h2 := HFR.out.2
        rw [HFF.out] at h2
        exact inT_iff.2 ⟨h1, by omega, by omega, by omega⟩
      have hwd := word_any hT9.ram t (j : Int)
      rw [← ex, show wdE 4096 x t j = unErr x by simp [wdE, hin]] at hwd
      have hsay := HGD.out.entry j hj8
      rw [← ex] at hsay
      have hok : unOK x = true := by
        cases e : unOK x
        · exfalso; apply hsay; unfold say sayB; rw [if_pos e]
        · rfl
      have he : unErr x = 0 := by simp [unErr, hok]
      rw [he] at hwd
      unfold unE at hwd
      obtain ⟨x0, -, -⟩ := hT9.cells
      have c4 : wr.cell? ⟨b4, 0, none⟩ = some (.pointer (some ⟨s.x, 0, none⟩)) := hh.r4.cell 0
      have hws : IntKind.i64.wrap ((j : Int)) = (j : Int) := IntWalk.i64_in _ (by omega)
      have hwb : IntKind.i64.wrap (b + (j : Int)) = b + (j : Int) := IntWalk.i64_in _ (by have := HB0.out; omega)
      have HH := Lib.hid hh
      have HX := Lib.hid ex
      have HSAY := Lib.hid hsay
      have HT9 := Lib.hid hT9
      obtain ⟨f, ef⟩ : ∃ f, f = unF x := ⟨_, rfl⟩
      obtain ⟨y0, ey0⟩ : ∃ y, y = unB x 0 := ⟨_, rfl⟩
      obtain ⟨y1, ey1⟩ : ∃ y, y = unB x 1 := ⟨_, rfl⟩
      obtain ⟨y7, ey7⟩ : ∃ y, y = unB x 7 := ⟨_, rfl⟩
      obtain ⟨y9, ey9⟩ : ∃ y, y = unB x 9 := ⟨_, rfl⟩
      obtain ⟨y5, ey5⟩ : ∃ y, y = unB x 5 := ⟨_, rfl⟩
      obtain ⟨y6, ey6⟩ : ∃ y, y = unB x 6 := ⟨_, rfl⟩
      rw [← ef, ← ey0, ← ey1, ← ey7, ← ey9, ← ey5, ← ey6] at hwd
      have hk := kinds hok
      rw [← ef, ← ey0, ← ey1, ← ey7, ← ey9, ← ey5, ← ey6] at hk
      have hsE : say (FF ws) ((0 : Nat) : Int) x = sayB 512 0 true f y0 y1 y7 y9 y5 y6 := by unfold say; rw [hok, HFF.out, ← ef, ← ey0, ← ey1, ← ey7, ← ey9, ← ey5, ← ey6]; rfl
      have HSE := Lib.hid hsE
      have HF := Lib.hid (And.intro ef (And.intro ey0 (And.intro ey1 (And.intro ey7 (And.intro ey9 (And.intro ey5 ey6))))))
      clear hh ex hsay hT9 hin he hok ef ey0 ey1 ey7 ey9 ey5 ey6 hsE
      rcases hk with ⟨rfl, rfl, rfl, rfl, rfl, rfl, rfl⟩ | ⟨rfl, rfl⟩ | ⟨rfl, rfl, rfl, rfl⟩
      · go_wp2_with fail
        refine hwd.mono ?_
        rintro e w2 ⟨rfl, hb2⟩
        have h2 := HH.out.call hb2
        obtain ⟨q, hq⟩ : ∃ q, q = w2.heap.size := ⟨_, rfl⟩
        obtain ⟨w3, hw3⟩ : ∃ w3, w3 = w2.alloc (.cells #[.int .i64 0, .bool false, .bool false, .bool false, .bool false, .bool false, .bool false] 28) := ⟨_, rfl⟩
        have h3 : ThL w w3 s b3 b4 b5 b6 bl (acc ++ upL ws 0 t b j) := by rw [hw3]; exact h2.call (below_new w2 _ _)
        have e3 : Row w3 q 28 [.int .i64 0, .bool false, .bool false, .bool false, .bool false, .bool false, .bool false] := by rw [hw3, hq]; exact Row.new w2 _ _
        have HW3 := Lib.hid hw3
        have HQ := Lib.hid hq
        have H3 := Lib.hid h3
        obtain ⟨d0, d1, d2, d3, d4, d5, d6⟩ := e3.seven.1
        have c5 : w3.cell? ⟨b5, 0, none⟩ = some (.func (.func 35) #[] #[.pointer (some ⟨bl, 0, none⟩)]) := h3.r5.cell 0
        have c6 : w3.cell? ⟨b6, 0, none⟩ = some (.func (.func 56) #[] #[.pointer (some ⟨b3, 0, none⟩), .pointer (some ⟨b4, 0, none⟩), .pointer (some ⟨b5, 0, none⟩), .pointer (some ⟨b6, 0, none⟩)]) := h3.r6.cell 0
        clear hwd hb2 h2 hw3 hq h3 e3 c4 x0
        go_upto_region 8 with (fail)
        rw [← HW3.out, ← HQ.out]
        go_wp2_with fail
        go_roundw
        case rel => exact ⟨j + 1, by omega, by go_num, by
          rw [upL_succ, ← HX.out, (show addL ws 0 x (b + (j : Int) * 8 ^ 0) = [] by exact addL_none (by rw [HSE.out]; simp [sayB, noB]) (by rw [HSE.out]; simp [sayB, noB])), List.append_nil]; exact H3.out⟩
        case measure => simp [intOf]; omega
      · cases y7
        · go_wp2_with fail
          refine hwd.mono ?_
          rintro e w2 ⟨rfl, hb2⟩
          have h2 := HH.out.call hb2
          obtain ⟨q, hq⟩ : ∃ q, q = w2.heap.size := ⟨_, rfl⟩
          obtain ⟨w3, hw3⟩ : ∃ w3, w3 = w2.alloc (.cells #[.int .i64 f, .bool true, .bool y1, .bool false, .bool false, .bool y5, .bool y6] 28) := ⟨_, rfl⟩
          have h3 : ThL w w3 s b3 b4 b5 b6 bl (acc ++ upL ws 0 t b j) := by rw [hw3]; exact h2.call (below_new w2 _ _)
          have e3 : Row w3 q 28 [.int .i64 f, .bool true, .bool y1, .bool false, .bool false, .bool y5, .bool y6] := by rw [hw3, hq]; exact Row.new w2 _ _
          have HW3 := Lib.hid hw3
          have HQ := Lib.hid hq
          have H3 := Lib.hid h3
          obtain ⟨d0, d1, d2, d3, d4, d5, d6⟩ := e3.seven.1
          have c5 : w3.cell? ⟨b5, 0, none⟩ = some (.func (.func 35) #[] #[.pointer (some ⟨bl, 0, none⟩)]) := h3.r5.cell 0
          have c6 : w3.cell? ⟨b6, 0, none⟩ = some (.func (.func 56) #[] #[.pointer (some ⟨b3, 0, none⟩), .pointer (some ⟨b4, 0, none⟩), .pointer (some ⟨b5, 0, none⟩), .pointer (some ⟨b6, 0, none⟩)]) := h3.r6.cell 0
          clear hwd hb2 h2 hw3 hq h3 e3 c4 x0
          go_upto_region 8 with (fail)
          rw [← HW3.out, ← HQ.out]
          have hlf := thLeaf H3.out (by have := upL_len ws 0 t b j; have := HBD.out; simp; omega) ⟨b + (j : Int), 0, f, true, y1, false, false, y5, y6⟩
          simp only [mcell] at hlf
          go_wp2_with fail
          refine hlf.mono ?_
          rintro e w4 ⟨rfl, h4⟩
          have H4 := Lib.hid h4
          clear hlf h4
          go_wp2_with fail
          go_roundw
          case rel => exact ⟨j + 1, by omega, by go_num, by
            have hs : say (FF ws) ((0 : Nat) : Int) x = 3 := by rw [HSE.out]; exact sayB_leaf (by rw [← HSE.out]; exact HSAY.out) (by simp [noB]) (by simp)
            have ha : addL ws 0 x (b + (j : Int) * 8 ^ 0) = [⟨b + (j : Int), 0, f, true, y1, false, false, y5, y6⟩] := by
              obtain ⟨a0, a1, a2, a3, a4, a5, a6⟩ := HF.out
              rw [addL_leaf hs]; simp [mpOf, ← a0, ← a1, ← a2, ← a3, ← a4, ← a5, ← a6]
            rw [upL_succ, ← HX.out, ha, ← List.append_assoc]; exact H4.out⟩
          case measure => simp [intOf]; omega
        · exact absurd (HSE.out.trans (by simp [sayB])) HSAY.out
      · go_wp2_with fail
        refine hwd.mono ?_
        rintro e w2 ⟨rfl, hb2⟩
        have h2 := HH.out.call hb2
        obtain ⟨q, hq⟩ : ∃ q, q = w2.heap.size := ⟨_, rfl⟩
        obtain ⟨w3, hw3⟩ : ∃ w3, w3 = w2.alloc (.cells #[.int .i64 f, .bool false, .bool false, .bool false, .bool true, .bool y5, .bool y6] 28) := ⟨_, rfl⟩
        have h3 : ThL w w3 s b3 b4 b5 b6 bl (acc ++ upL ws 0 t b j) := by rw [hw3]; exact h2.call (below_new w2 _ _)
        have e3 : Row w3 q 28 [.int .i64 f, .bool false, .bool false, .bool false, .bool true, .bool y5, .bool y6] := by rw [hw3, hq]; exact Row.new w2 _ _
        have HW3 := Lib.hid hw3
        have HQ := Lib.hid hq
        have H3 := Lib.hid h3
        obtain ⟨d0, d1, d2, d3, d4, d5, d6⟩ := e3.seven.1
        have c5 : w3.cell? ⟨b5, 0, none⟩ = some (.func (.func 35) #[] #[.pointer (some ⟨bl, 0, none⟩)]) := h3.r5.cell 0
        have c6 : w3.cell? ⟨b6, 0, none⟩ = some (.func (.func 56) #[] #[.pointer (some ⟨b3, 0, none⟩), .pointer (some ⟨b4, 0, none⟩), .pointer (some ⟨b5, 0, none⟩), .pointer (some ⟨b6, 0, none⟩)]) := h3.r6.cell 0
        clear hwd hb2 h2 hw3 hq h3 e3 c4 x0
        go_upto_region 8 with (fail)
        rw [← HW3.out, ← HQ.out]
        have hlf := thLeaf H3.out (by have := upL_len ws 0 t b j; have := HBD.out; simp; omega) ⟨b + (j : Int), 0, f, false, false, false, true, y5, y6⟩
        simp only [mcell] at hlf
        go_wp2_with fail
        refine hlf.mono ?_
        rintro e w4 ⟨rfl, h4⟩
        have H4 := Lib.hid h4
        clear hlf h4
        go_wp2_with fail
        go_roundw
        case rel => exact ⟨j + 1, by omega, by go_num, by
          have hs : say (FF ws) ((0 : Nat) : Int) x = 3 := by rw [HSE.out]; exact sayB_leaf (by rw [← HSE.out]; exact HSAY.out) (by simp [noB]) (by simp)
          have ha : addL ws 0 x (b + (j : Int) * 8 ^ 0) = [⟨b + (j : Int), 0, f, false, false, false, true, y5, y6⟩] := by
            obtain ⟨a0, a1, a2, a3, a4, a5, a6⟩ := HF.out
            rw [addL_leaf hs]; simp [mpOf, ← a0, ← a1, ← a2, ← a3, ← a4, ← a5, ← a6]
          rw [upL_succ, ← HX.out, ha, ← List.append_assoc]; exact H4.out⟩
        case measure => simp [intOf]; omega
    · obtain rfl : j = 8 := by omega
      have H9 := Lib.hid hh
      clear hh
      go_wp2_with fail
      go_end0
      exact ⟨rfl, by have := H9.out; rwa [upL_all] at this⟩
end
section
variable {w w0 : World} {s : Seat} {v : Value} {ws L R : List Int} {b3 b4 b5 b6 bl : Nat}
set_option maxRecDepth 100000 in
set_option maxHeartbeats 1000000 in
theorem belowL1 {W : World} {acc : List Mp} (hT : Tab w s v ws L R) (h : ThL w W s b3 b4 b5 b6 bl acc) (t b : Int) (hg : Good ws 1 t) (hlen : ws.length = 4096) (b0 : 0 ≤ b) (b1 : b + 64 ≤ 4096) (hbd : acc.length + 64 ≤ 5000) :
    Calls Try.prog 56 #[.int .i64 t, .int .i64 1, .int .i64 b, .pointer (some ⟨b3, 0, none⟩), .pointer (some ⟨b4, 0, none⟩), .pointer (some ⟨b5, 0, none⟩), .pointer (some ⟨b6, 0, none⟩)] W fun e W' => e = .returned (.tuple #[]) ∧ ThL w W' s b3 b4 b5 b6 bl (acc ++ (lvs ws 1 t b).map mpOf) := by
  have hfr := hg.frame
  have hFF : FF ws = 512 := by unfold FF; rw [hlen]; rfl
  have HT := Lib.hid hT
  have HGD := Lib.hid hg
  have HB0 := Lib.hid (And.intro b0 b1)
  have HLEN := Lib.hid hlen
  have HBD := Lib.hid hbd
  have HFF := Lib.hid hFF
  have HFR := Lib.hid hfr
  have c3 : W.cell? ⟨b3, 0, none⟩ = some (.func (.func 34) #[] #[]) := h.r3.cell 0
  have htab := thTab h t
  clear hT hg hlen hbd hFF hfr h
  go_enter Try.func56, Try.ntmps56
  go_wp2_with fail
  refine htab.mono ?_
  rintro e W1 ⟨rfl, h1⟩
  have H1 := Lib.hid h1
  clear htab c3 h1
  go_wp2_with fail
  go_loopw [20] (fun i wx => ∃ j : Nat, j ≤ 8 ∧ i = .int .i64 j ∧ ThL w wx s b3 b4 b5 b6 bl (acc ++ upL ws 1 t b j)) (fun i _ => 8 - (intOf i).toNat)
  case atStart => exact ⟨0, by omega, rfl, by simpa [upL] using H1.out⟩
  case round =>
    obtain ⟨j, hj, rfl, hh⟩ := hrel
    by_cases hj8 : j < 8
    · obtain ⟨x, ex⟩ : ∃ x, x = wd ws t (j : Int) := ⟨_, rfl⟩
      have hT9 := HT.out.call hh.bel
      have hin : inT 4096 t j = true := by
        have h1 := HFR.out.1
        have h2 := HFR.out.2
        rw [HFF.out] at h2
        exact inT_iff.2 ⟨h1, by omega, by omega, by omega⟩
      have hwd := word_any hT9.ram t (j : Int)
      rw [← ex, show wdE 4096 x t j = unErr x by simp [wdE, hin]] at hwd
      have hsay := HGD.out.entry j hj8
      rw [← ex] at hsay
      have hok : unOK x = true := by
        cases e : unOK x
        · exfalso; apply hsay; unfold say sayB; rw [if_pos e]
        · rfl
      have he : unErr x = 0 := by simp [unErr, hok]
      rw [he] at hwd
      unfold unE at hwd
      obtain ⟨x0, -, -⟩ := hT9.cells
      have c4 : wr.cell? ⟨b4, 0, none⟩ = some (.pointer (some ⟨s.x, 0, none⟩)) := hh.r4.cell 0
      have hws : IntKind.i64.wrap ((j : Int) * 8) = (j : Int) * 8 := IntWalk.i64_in _ (by omega)
      have hwb : IntKind.i64.wrap (b + (j : Int) * 8) = b + (j : Int) * 8 := IntWalk.i64_in _ (by have := HB0.out; omega)
      have HH := Lib.hid hh
      have HX := Lib.hid ex
      have HSAY := Lib.hid hsay
      have HT9 := Lib.hid hT9
      obtain ⟨f, ef⟩ : ∃ f, f = unF x := ⟨_, rfl⟩
      obtain ⟨y0, ey0⟩ : ∃ y, y = unB x 0 := ⟨_, rfl⟩
      obtain ⟨y1, ey1⟩ : ∃ y, y = unB x 1 := ⟨_, rfl⟩
      obtain ⟨y7, ey7⟩ : ∃ y, y = unB x 7 := ⟨_, rfl⟩
      obtain ⟨y9, ey9⟩ : ∃ y, y = unB x 9 := ⟨_, rfl⟩
      obtain ⟨y5, ey5⟩ : ∃ y, y = unB x 5 := ⟨_, rfl⟩
      obtain ⟨y6, ey6⟩ : ∃ y, y = unB x 6 := ⟨_, rfl⟩
      rw [← ef, ← ey0, ← ey1, ← ey7, ← ey9, ← ey5, ← ey6] at hwd
      have hk := kinds hok
      rw [← ef, ← ey0, ← ey1, ← ey7, ← ey9, ← ey5, ← ey6] at hk
      have hsE : say (FF ws) ((1 : Nat) : Int) x = sayB 512 1 true f y0 y1 y7 y9 y5 y6 := by unfold say; rw [hok, HFF.out, ← ef, ← ey0, ← ey1, ← ey7, ← ey9, ← ey5, ← ey6]; rfl
      have HSE := Lib.hid hsE
      have HF := Lib.hid (And.intro ef (And.intro ey0 (And.intro ey1 (And.intro ey7 (And.intro ey9 (And.intro ey5 ey6))))))
      clear hh ex hsay hT9 hin he hok ef ey0 ey1 ey7 ey9 ey5 ey6 hsE
      rcases hk with ⟨rfl, rfl, rfl, rfl, rfl, rfl, rfl⟩ | ⟨rfl, rfl⟩ | ⟨rfl, rfl, rfl, rfl⟩
      · go_wp2_with fail
        refine hwd.mono ?_
        rintro e w2 ⟨rfl, hb2⟩
        have h2 := HH.out.call hb2
        obtain ⟨q, hq⟩ : ∃ q, q = w2.heap.size := ⟨_, rfl⟩
        obtain ⟨w3, hw3⟩ : ∃ w3, w3 = w2.alloc (.cells #[.int .i64 0, .bool false, .bool false, .bool false, .bool false, .bool false, .bool false] 28) := ⟨_, rfl⟩
        have h3 : ThL w w3 s b3 b4 b5 b6 bl (acc ++ upL ws 1 t b j) := by rw [hw3]; exact h2.call (below_new w2 _ _)
        have e3 : Row w3 q 28 [.int .i64 0, .bool false, .bool false, .bool false, .bool false, .bool false, .bool false] := by rw [hw3, hq]; exact Row.new w2 _ _
        have HW3 := Lib.hid hw3
        have HQ := Lib.hid hq
        have H3 := Lib.hid h3
        obtain ⟨d0, d1, d2, d3, d4, d5, d6⟩ := e3.seven.1
        have c5 : w3.cell? ⟨b5, 0, none⟩ = some (.func (.func 35) #[] #[.pointer (some ⟨bl, 0, none⟩)]) := h3.r5.cell 0
        have c6 : w3.cell? ⟨b6, 0, none⟩ = some (.func (.func 56) #[] #[.pointer (some ⟨b3, 0, none⟩), .pointer (some ⟨b4, 0, none⟩), .pointer (some ⟨b5, 0, none⟩), .pointer (some ⟨b6, 0, none⟩)]) := h3.r6.cell 0
        clear hwd hb2 h2 hw3 hq h3 e3 c4 x0
        go_upto_region 8 with (fail)
        rw [← HW3.out, ← HQ.out]
        go_wp2_with fail
        go_roundw
        case rel => exact ⟨j + 1, by omega, by go_num, by
          rw [upL_succ, ← HX.out, (show addL ws 1 x (b + (j : Int) * 8 ^ 1) = [] by exact addL_none (by rw [HSE.out]; simp [sayB, noB]) (by rw [HSE.out]; simp [sayB, noB])), List.append_nil]; exact H3.out⟩
        case measure => simp [intOf]; omega
      · cases y7
        · go_wp2_with fail
          refine hwd.mono ?_
          rintro e w2 ⟨rfl, hb2⟩
          have h2 := HH.out.call hb2
          obtain ⟨q, hq⟩ : ∃ q, q = w2.heap.size := ⟨_, rfl⟩
          obtain ⟨w3, hw3⟩ : ∃ w3, w3 = w2.alloc (.cells #[.int .i64 f, .bool true, .bool y1, .bool false, .bool false, .bool y5, .bool y6] 28) := ⟨_, rfl⟩
          have h3 : ThL w w3 s b3 b4 b5 b6 bl (acc ++ upL ws 1 t b j) := by rw [hw3]; exact h2.call (below_new w2 _ _)
          have e3 : Row w3 q 28 [.int .i64 f, .bool true, .bool y1, .bool false, .bool false, .bool y5, .bool y6] := by rw [hw3, hq]; exact Row.new w2 _ _
          have HW3 := Lib.hid hw3
          have HQ := Lib.hid hq
          have H3 := Lib.hid h3
          obtain ⟨d0, d1, d2, d3, d4, d5, d6⟩ := e3.seven.1
          have c5 : w3.cell? ⟨b5, 0, none⟩ = some (.func (.func 35) #[] #[.pointer (some ⟨bl, 0, none⟩)]) := h3.r5.cell 0
          have c6 : w3.cell? ⟨b6, 0, none⟩ = some (.func (.func 56) #[] #[.pointer (some ⟨b3, 0, none⟩), .pointer (some ⟨b4, 0, none⟩), .pointer (some ⟨b5, 0, none⟩), .pointer (some ⟨b6, 0, none⟩)]) := h3.r6.cell 0
          clear hwd hb2 h2 hw3 hq h3 e3 c4 x0
          go_upto_region 8 with (fail)
          rw [← HW3.out, ← HQ.out]
          have hs : say (FF ws) ((1 : Nat) : Int) x = 2 := by rw [HSE.out]; exact sayB_on (by rw [← HSE.out]; exact HSAY.out) (by simp [noB]) (by simp)
          have hgb := HGD.out.below j hj8 (by rw [← HX.out]; exact hs)
          rw [← HX.out, ← HF.out.1] at hgb
          have hlf := belowL0 HT.out H3.out f (b + (j : Int) * 8) hgb HLEN.out (by have := HB0.out; omega) (by have := HB0.out; omega) (by have := upL_len ws 1 t b j; have := HBD.out; simp at this ⊢; omega)
          have HS := Lib.hid hs
          clear hs hgb
          go_wp2_with fail
          refine hlf.mono ?_
          rintro e w4 ⟨rfl, h4⟩
          have H4 := Lib.hid h4
          clear hlf h4
          go_wp2_with fail
          go_roundw
          case rel => exact ⟨j + 1, by omega, by go_num, by
            have ha : addL ws 1 x (b + (j : Int) * 8 ^ 1) = (lvs ws 0 f (b + (j : Int) * 8)).map mpOf := by
              rw [addL_on (l := 0) HS.out, ← HF.out.1]; rfl
            rw [upL_succ, ← HX.out, ha, ← List.append_assoc]; exact H4.out⟩
          case measure => simp [intOf]; omega
        · go_wp2_with fail
          refine hwd.mono ?_
          rintro e w2 ⟨rfl, hb2⟩
          have h2 := HH.out.call hb2
          obtain ⟨q, hq⟩ : ∃ q, q = w2.heap.size := ⟨_, rfl⟩
          obtain ⟨w3, hw3⟩ : ∃ w3, w3 = w2.alloc (.cells #[.int .i64 f, .bool true, .bool y1, .bool true, .bool false, .bool y5, .bool y6] 28) := ⟨_, rfl⟩
          have h3 : ThL w w3 s b3 b4 b5 b6 bl (acc ++ upL ws 1 t b j) := by rw [hw3]; exact h2.call (below_new w2 _ _)
          have e3 : Row w3 q 28 [.int .i64 f, .bool true, .bool y1, .bool true, .bool false, .bool y5, .bool y6] := by rw [hw3, hq]; exact Row.new w2 _ _
          have HW3 := Lib.hid hw3
          have HQ := Lib.hid hq
          have H3 := Lib.hid h3
          obtain ⟨d0, d1, d2, d3, d4, d5, d6⟩ := e3.seven.1
          have c5 : w3.cell? ⟨b5, 0, none⟩ = some (.func (.func 35) #[] #[.pointer (some ⟨bl, 0, none⟩)]) := h3.r5.cell 0
          have c6 : w3.cell? ⟨b6, 0, none⟩ = some (.func (.func 56) #[] #[.pointer (some ⟨b3, 0, none⟩), .pointer (some ⟨b4, 0, none⟩), .pointer (some ⟨b5, 0, none⟩), .pointer (some ⟨b6, 0, none⟩)]) := h3.r6.cell 0
          clear hwd hb2 h2 hw3 hq h3 e3 c4 x0
          go_upto_region 8 with (fail)
          rw [← HW3.out, ← HQ.out]
          have hlf := thLeaf H3.out (by have := upL_len ws 1 t b j; have := HBD.out; simp; omega) ⟨b + (j : Int) * 8, 3, f, true, y1, true, false, y5, y6⟩
          simp only [mcell] at hlf
          go_wp2_with fail
          refine hlf.mono ?_
          rintro e w4 ⟨rfl, h4⟩
          have H4 := Lib.hid h4
          clear hlf h4
          go_wp2_with fail
          go_roundw
          case rel => exact ⟨j + 1, by omega, by go_num, by
            have hs : say (FF ws) ((1 : Nat) : Int) x = 3 := by rw [HSE.out]; exact sayB_leaf (by rw [← HSE.out]; exact HSAY.out) (by simp [noB]) (by simp)
            have ha : addL ws 1 x (b + (j : Int) * 8 ^ 1) = [⟨b + (j : Int) * 8, 3, f, true, y1, true, false, y5, y6⟩] := by
              obtain ⟨a0, a1, a2, a3, a4, a5, a6⟩ := HF.out
              rw [addL_leaf hs]; simp [mpOf, ← a0, ← a1, ← a2, ← a3, ← a4, ← a5, ← a6]
            rw [upL_succ, ← HX.out, ha, ← List.append_assoc]; exact H4.out⟩
          case measure => simp [intOf]; omega
      · exact absurd (HSE.out.trans (by simp [sayB])) HSAY.out
    · obtain rfl : j = 8 := by omega
      have H9 := Lib.hid hh
      clear hh
      go_wp2_with fail
      go_end0
      exact ⟨rfl, by have := H9.out; rwa [upL_all] at this⟩
end
section
variable {w w0 : World} {s : Seat} {v : Value} {ws L R : List Int} {b3 b4 b5 b6 bl : Nat}
set_option maxRecDepth 100000 in
set_option maxHeartbeats 1000000 in
theorem belowL2 {W : World} {acc : List Mp} (hT : Tab w s v ws L R) (h : ThL w W s b3 b4 b5 b6 bl acc) (t b : Int) (hg : Good ws 2 t) (hlen : ws.length = 4096) (b0 : 0 ≤ b) (b1 : b + 512 ≤ 4096) (hbd : acc.length + 512 ≤ 5000) :
    Calls Try.prog 56 #[.int .i64 t, .int .i64 2, .int .i64 b, .pointer (some ⟨b3, 0, none⟩), .pointer (some ⟨b4, 0, none⟩), .pointer (some ⟨b5, 0, none⟩), .pointer (some ⟨b6, 0, none⟩)] W fun e W' => e = .returned (.tuple #[]) ∧ ThL w W' s b3 b4 b5 b6 bl (acc ++ (lvs ws 2 t b).map mpOf) := by
  have hfr := hg.frame
  have hFF : FF ws = 512 := by unfold FF; rw [hlen]; rfl
  have HT := Lib.hid hT
  have HGD := Lib.hid hg
  have HB0 := Lib.hid (And.intro b0 b1)
  have HLEN := Lib.hid hlen
  have HBD := Lib.hid hbd
  have HFF := Lib.hid hFF
  have HFR := Lib.hid hfr
  have c3 : W.cell? ⟨b3, 0, none⟩ = some (.func (.func 34) #[] #[]) := h.r3.cell 0
  have htab := thTab h t
  clear hT hg hlen hbd hFF hfr h
  go_enter Try.func56, Try.ntmps56
  go_wp2_with fail
  refine htab.mono ?_
  rintro e W1 ⟨rfl, h1⟩
  have H1 := Lib.hid h1
  clear htab c3 h1
  go_wp2_with fail
  go_loopw [20] (fun i wx => ∃ j : Nat, j ≤ 8 ∧ i = .int .i64 j ∧ ThL w wx s b3 b4 b5 b6 bl (acc ++ upL ws 2 t b j)) (fun i _ => 8 - (intOf i).toNat)
  case atStart => exact ⟨0, by omega, rfl, by simpa [upL] using H1.out⟩
  case round =>
    obtain ⟨j, hj, rfl, hh⟩ := hrel
    by_cases hj8 : j < 8
    · obtain ⟨x, ex⟩ : ∃ x, x = wd ws t (j : Int) := ⟨_, rfl⟩
      have hT9 := HT.out.call hh.bel
      have hin : inT 4096 t j = true := by
        have h1 := HFR.out.1
        have h2 := HFR.out.2
        rw [HFF.out] at h2
        exact inT_iff.2 ⟨h1, by omega, by omega, by omega⟩
      have hwd := word_any hT9.ram t (j : Int)
      rw [← ex, show wdE 4096 x t j = unErr x by simp [wdE, hin]] at hwd
      have hsay := HGD.out.entry j hj8
      rw [← ex] at hsay
      have hok : unOK x = true := by
        cases e : unOK x
        · exfalso; apply hsay; unfold say sayB; rw [if_pos e]
        · rfl
      have he : unErr x = 0 := by simp [unErr, hok]
      rw [he] at hwd
      unfold unE at hwd
      obtain ⟨x0, -, -⟩ := hT9.cells
      have c4 : wr.cell? ⟨b4, 0, none⟩ = some (.pointer (some ⟨s.x, 0, none⟩)) := hh.r4.cell 0
      have hws : IntKind.i64.wrap ((j : Int) * 64) = (j : Int) * 64 := IntWalk.i64_in _ (by omega)
      have hwb : IntKind.i64.wrap (b + (j : Int) * 64) = b + (j : Int) * 64 := IntWalk.i64_in _ (by have := HB0.out; omega)
      have HH := Lib.hid hh
      have HX := Lib.hid ex
      have HSAY := Lib.hid hsay
      have HT9 := Lib.hid hT9
      obtain ⟨f, ef⟩ : ∃ f, f = unF x := ⟨_, rfl⟩
      obtain ⟨y0, ey0⟩ : ∃ y, y = unB x 0 := ⟨_, rfl⟩
      obtain ⟨y1, ey1⟩ : ∃ y, y = unB x 1 := ⟨_, rfl⟩
      obtain ⟨y7, ey7⟩ : ∃ y, y = unB x 7 := ⟨_, rfl⟩
      obtain ⟨y9, ey9⟩ : ∃ y, y = unB x 9 := ⟨_, rfl⟩
      obtain ⟨y5, ey5⟩ : ∃ y, y = unB x 5 := ⟨_, rfl⟩
      obtain ⟨y6, ey6⟩ : ∃ y, y = unB x 6 := ⟨_, rfl⟩
      rw [← ef, ← ey0, ← ey1, ← ey7, ← ey9, ← ey5, ← ey6] at hwd
      have hk := kinds hok
      rw [← ef, ← ey0, ← ey1, ← ey7, ← ey9, ← ey5, ← ey6] at hk
      have hsE : say (FF ws) ((2 : Nat) : Int) x = sayB 512 2 true f y0 y1 y7 y9 y5 y6 := by unfold say; rw [hok, HFF.out, ← ef, ← ey0, ← ey1, ← ey7, ← ey9, ← ey5, ← ey6]; rfl
      have HSE := Lib.hid hsE
      have HF := Lib.hid (And.intro ef (And.intro ey0 (And.intro ey1 (And.intro ey7 (And.intro ey9 (And.intro ey5 ey6))))))
      clear hh ex hsay hT9 hin he hok ef ey0 ey1 ey7 ey9 ey5 ey6 hsE
      rcases hk with ⟨rfl, rfl, rfl, rfl, rfl, rfl, rfl⟩ | ⟨rfl, rfl⟩ | ⟨rfl, rfl, rfl, rfl⟩
      · go_wp2_with fail
        refine hwd.mono ?_
        rintro e w2 ⟨rfl, hb2⟩
        have h2 := HH.out.call hb2
        obtain ⟨q, hq⟩ : ∃ q, q = w2.heap.size := ⟨_, rfl⟩
        obtain ⟨w3, hw3⟩ : ∃ w3, w3 = w2.alloc (.cells #[.int .i64 0, .bool false, .bool false, .bool false, .bool false, .bool false, .bool false] 28) := ⟨_, rfl⟩
        have h3 : ThL w w3 s b3 b4 b5 b6 bl (acc ++ upL ws 2 t b j) := by rw [hw3]; exact h2.call (below_new w2 _ _)
        have e3 : Row w3 q 28 [.int .i64 0, .bool false, .bool false, .bool false, .bool false, .bool false, .bool false] := by rw [hw3, hq]; exact Row.new w2 _ _
        have HW3 := Lib.hid hw3
        have HQ := Lib.hid hq
        have H3 := Lib.hid h3
        obtain ⟨d0, d1, d2, d3, d4, d5, d6⟩ := e3.seven.1
        have c5 : w3.cell? ⟨b5, 0, none⟩ = some (.func (.func 35) #[] #[.pointer (some ⟨bl, 0, none⟩)]) := h3.r5.cell 0
        have c6 : w3.cell? ⟨b6, 0, none⟩ = some (.func (.func 56) #[] #[.pointer (some ⟨b3, 0, none⟩), .pointer (some ⟨b4, 0, none⟩), .pointer (some ⟨b5, 0, none⟩), .pointer (some ⟨b6, 0, none⟩)]) := h3.r6.cell 0
        clear hwd hb2 h2 hw3 hq h3 e3 c4 x0
        go_upto_region 8 with (fail)
        rw [← HW3.out, ← HQ.out]
        go_wp2_with fail
        go_roundw
        case rel => exact ⟨j + 1, by omega, by go_num, by
          rw [upL_succ, ← HX.out, (show addL ws 2 x (b + (j : Int) * 8 ^ 2) = [] by exact addL_none (by rw [HSE.out]; simp [sayB, noB]) (by rw [HSE.out]; simp [sayB, noB])), List.append_nil]; exact H3.out⟩
        case measure => simp [intOf]; omega
      · cases y7
        · go_wp2_with fail
          refine hwd.mono ?_
          rintro e w2 ⟨rfl, hb2⟩
          have h2 := HH.out.call hb2
          obtain ⟨q, hq⟩ : ∃ q, q = w2.heap.size := ⟨_, rfl⟩
          obtain ⟨w3, hw3⟩ : ∃ w3, w3 = w2.alloc (.cells #[.int .i64 f, .bool true, .bool y1, .bool false, .bool false, .bool y5, .bool y6] 28) := ⟨_, rfl⟩
          have h3 : ThL w w3 s b3 b4 b5 b6 bl (acc ++ upL ws 2 t b j) := by rw [hw3]; exact h2.call (below_new w2 _ _)
          have e3 : Row w3 q 28 [.int .i64 f, .bool true, .bool y1, .bool false, .bool false, .bool y5, .bool y6] := by rw [hw3, hq]; exact Row.new w2 _ _
          have HW3 := Lib.hid hw3
          have HQ := Lib.hid hq
          have H3 := Lib.hid h3
          obtain ⟨d0, d1, d2, d3, d4, d5, d6⟩ := e3.seven.1
          have c5 : w3.cell? ⟨b5, 0, none⟩ = some (.func (.func 35) #[] #[.pointer (some ⟨bl, 0, none⟩)]) := h3.r5.cell 0
          have c6 : w3.cell? ⟨b6, 0, none⟩ = some (.func (.func 56) #[] #[.pointer (some ⟨b3, 0, none⟩), .pointer (some ⟨b4, 0, none⟩), .pointer (some ⟨b5, 0, none⟩), .pointer (some ⟨b6, 0, none⟩)]) := h3.r6.cell 0
          clear hwd hb2 h2 hw3 hq h3 e3 c4 x0
          go_upto_region 8 with (fail)
          rw [← HW3.out, ← HQ.out]
          have hs : say (FF ws) ((2 : Nat) : Int) x = 2 := by rw [HSE.out]; exact sayB_on (by rw [← HSE.out]; exact HSAY.out) (by simp [noB]) (by simp)
          have hgb := HGD.out.below j hj8 (by rw [← HX.out]; exact hs)
          rw [← HX.out, ← HF.out.1] at hgb
          have hlf := belowL1 HT.out H3.out f (b + (j : Int) * 64) hgb HLEN.out (by have := HB0.out; omega) (by have := HB0.out; omega) (by have := upL_len ws 2 t b j; have := HBD.out; simp at this ⊢; omega)
          have HS := Lib.hid hs
          clear hs hgb
          go_wp2_with fail
          refine hlf.mono ?_
          rintro e w4 ⟨rfl, h4⟩
          have H4 := Lib.hid h4
          clear hlf h4
          go_wp2_with fail
          go_roundw
          case rel => exact ⟨j + 1, by omega, by go_num, by
            have ha : addL ws 2 x (b + (j : Int) * 8 ^ 2) = (lvs ws 1 f (b + (j : Int) * 64)).map mpOf := by
              rw [addL_on (l := 1) HS.out, ← HF.out.1]; rfl
            rw [upL_succ, ← HX.out, ha, ← List.append_assoc]; exact H4.out⟩
          case measure => simp [intOf]; omega
        · go_wp2_with fail
          refine hwd.mono ?_
          rintro e w2 ⟨rfl, hb2⟩
          have h2 := HH.out.call hb2
          obtain ⟨q, hq⟩ : ∃ q, q = w2.heap.size := ⟨_, rfl⟩
          obtain ⟨w3, hw3⟩ : ∃ w3, w3 = w2.alloc (.cells #[.int .i64 f, .bool true, .bool y1, .bool true, .bool false, .bool y5, .bool y6] 28) := ⟨_, rfl⟩
          have h3 : ThL w w3 s b3 b4 b5 b6 bl (acc ++ upL ws 2 t b j) := by rw [hw3]; exact h2.call (below_new w2 _ _)
          have e3 : Row w3 q 28 [.int .i64 f, .bool true, .bool y1, .bool true, .bool false, .bool y5, .bool y6] := by rw [hw3, hq]; exact Row.new w2 _ _
          have HW3 := Lib.hid hw3
          have HQ := Lib.hid hq
          have H3 := Lib.hid h3
          obtain ⟨d0, d1, d2, d3, d4, d5, d6⟩ := e3.seven.1
          have c5 : w3.cell? ⟨b5, 0, none⟩ = some (.func (.func 35) #[] #[.pointer (some ⟨bl, 0, none⟩)]) := h3.r5.cell 0
          have c6 : w3.cell? ⟨b6, 0, none⟩ = some (.func (.func 56) #[] #[.pointer (some ⟨b3, 0, none⟩), .pointer (some ⟨b4, 0, none⟩), .pointer (some ⟨b5, 0, none⟩), .pointer (some ⟨b6, 0, none⟩)]) := h3.r6.cell 0
          clear hwd hb2 h2 hw3 hq h3 e3 c4 x0
          go_upto_region 8 with (fail)
          rw [← HW3.out, ← HQ.out]
          have hlf := thLeaf H3.out (by have := upL_len ws 2 t b j; have := HBD.out; simp; omega) ⟨b + (j : Int) * 64, 6, f, true, y1, true, false, y5, y6⟩
          simp only [mcell] at hlf
          go_wp2_with fail
          refine hlf.mono ?_
          rintro e w4 ⟨rfl, h4⟩
          have H4 := Lib.hid h4
          clear hlf h4
          go_wp2_with fail
          go_roundw
          case rel => exact ⟨j + 1, by omega, by go_num, by
            have hs : say (FF ws) ((2 : Nat) : Int) x = 3 := by rw [HSE.out]; exact sayB_leaf (by rw [← HSE.out]; exact HSAY.out) (by simp [noB]) (by simp)
            have ha : addL ws 2 x (b + (j : Int) * 8 ^ 2) = [⟨b + (j : Int) * 64, 6, f, true, y1, true, false, y5, y6⟩] := by
              obtain ⟨a0, a1, a2, a3, a4, a5, a6⟩ := HF.out
              rw [addL_leaf hs]; simp [mpOf, ← a0, ← a1, ← a2, ← a3, ← a4, ← a5, ← a6]
            rw [upL_succ, ← HX.out, ha, ← List.append_assoc]; exact H4.out⟩
          case measure => simp [intOf]; omega
      · exact absurd (HSE.out.trans (by simp [sayB])) HSAY.out
    · obtain rfl : j = 8 := by omega
      have H9 := Lib.hid hh
      clear hh
      go_wp2_with fail
      go_end0
      exact ⟨rfl, by have := H9.out; rwa [upL_all] at this⟩
end
section
variable {w w0 : World} {s : Seat} {v : Value} {ws L R : List Int} {b3 b4 b5 b6 bl : Nat}
set_option maxRecDepth 100000 in
set_option maxHeartbeats 1000000 in
theorem belowL3 {W : World} {acc : List Mp} (hT : Tab w s v ws L R) (h : ThL w W s b3 b4 b5 b6 bl acc) (t b : Int) (hg : Good ws 3 t) (hlen : ws.length = 4096) (b0 : 0 ≤ b) (b1 : b + 4096 ≤ 4096) (hbd : acc.length + 4096 ≤ 5000) :
    Calls Try.prog 56 #[.int .i64 t, .int .i64 3, .int .i64 b, .pointer (some ⟨b3, 0, none⟩), .pointer (some ⟨b4, 0, none⟩), .pointer (some ⟨b5, 0, none⟩), .pointer (some ⟨b6, 0, none⟩)] W fun e W' => e = .returned (.tuple #[]) ∧ ThL w W' s b3 b4 b5 b6 bl (acc ++ (lvs ws 3 t b).map mpOf) := by
  have hfr := hg.frame
  have hFF : FF ws = 512 := by unfold FF; rw [hlen]; rfl
  have HT := Lib.hid hT
  have HGD := Lib.hid hg
  have HB0 := Lib.hid (And.intro b0 b1)
  have HLEN := Lib.hid hlen
  have HBD := Lib.hid hbd
  have HFF := Lib.hid hFF
  have HFR := Lib.hid hfr
  have c3 : W.cell? ⟨b3, 0, none⟩ = some (.func (.func 34) #[] #[]) := h.r3.cell 0
  have htab := thTab h t
  clear hT hg hlen hbd hFF hfr h
  go_enter Try.func56, Try.ntmps56
  go_wp2_with fail
  refine htab.mono ?_
  rintro e W1 ⟨rfl, h1⟩
  have H1 := Lib.hid h1
  clear htab c3 h1
  go_wp2_with fail
  go_loopw [20] (fun i wx => ∃ j : Nat, j ≤ 8 ∧ i = .int .i64 j ∧ ThL w wx s b3 b4 b5 b6 bl (acc ++ upL ws 3 t b j)) (fun i _ => 8 - (intOf i).toNat)
  case atStart => exact ⟨0, by omega, rfl, by simpa [upL] using H1.out⟩
  case round =>
    obtain ⟨j, hj, rfl, hh⟩ := hrel
    by_cases hj8 : j < 8
    · obtain ⟨x, ex⟩ : ∃ x, x = wd ws t (j : Int) := ⟨_, rfl⟩
      have hT9 := HT.out.call hh.bel
      have hin : inT 4096 t j = true := by
        have h1 := HFR.out.1
        have h2 := HFR.out.2
        rw [HFF.out] at h2
        exact inT_iff.2 ⟨h1, by omega, by omega, by omega⟩
      have hwd := word_any hT9.ram t (j : Int)
      rw [← ex, show wdE 4096 x t j = unErr x by simp [wdE, hin]] at hwd
      have hsay := HGD.out.entry j hj8
      rw [← ex] at hsay
      have hok : unOK x = true := by
        cases e : unOK x
        · exfalso; apply hsay; unfold say sayB; rw [if_pos e]
        · rfl
      have he : unErr x = 0 := by simp [unErr, hok]
      rw [he] at hwd
      unfold unE at hwd
      obtain ⟨x0, -, -⟩ := hT9.cells
      have c4 : wr.cell? ⟨b4, 0, none⟩ = some (.pointer (some ⟨s.x, 0, none⟩)) := hh.r4.cell 0
      have hws : IntKind.i64.wrap ((j : Int) * 512) = (j : Int) * 512 := IntWalk.i64_in _ (by omega)
      have hwb : IntKind.i64.wrap (b + (j : Int) * 512) = b + (j : Int) * 512 := IntWalk.i64_in _ (by have := HB0.out; omega)
      have HH := Lib.hid hh
      have HX := Lib.hid ex
      have HSAY := Lib.hid hsay
      have HT9 := Lib.hid hT9
      obtain ⟨f, ef⟩ : ∃ f, f = unF x := ⟨_, rfl⟩
      obtain ⟨y0, ey0⟩ : ∃ y, y = unB x 0 := ⟨_, rfl⟩
      obtain ⟨y1, ey1⟩ : ∃ y, y = unB x 1 := ⟨_, rfl⟩
      obtain ⟨y7, ey7⟩ : ∃ y, y = unB x 7 := ⟨_, rfl⟩
      obtain ⟨y9, ey9⟩ : ∃ y, y = unB x 9 := ⟨_, rfl⟩
      obtain ⟨y5, ey5⟩ : ∃ y, y = unB x 5 := ⟨_, rfl⟩
      obtain ⟨y6, ey6⟩ : ∃ y, y = unB x 6 := ⟨_, rfl⟩
      rw [← ef, ← ey0, ← ey1, ← ey7, ← ey9, ← ey5, ← ey6] at hwd
      have hk := kinds hok
      rw [← ef, ← ey0, ← ey1, ← ey7, ← ey9, ← ey5, ← ey6] at hk
      have hsE : say (FF ws) ((3 : Nat) : Int) x = sayB 512 3 true f y0 y1 y7 y9 y5 y6 := by unfold say; rw [hok, HFF.out, ← ef, ← ey0, ← ey1, ← ey7, ← ey9, ← ey5, ← ey6]; rfl
      have HSE := Lib.hid hsE
      have HF := Lib.hid (And.intro ef (And.intro ey0 (And.intro ey1 (And.intro ey7 (And.intro ey9 (And.intro ey5 ey6))))))
      clear hh ex hsay hT9 hin he hok ef ey0 ey1 ey7 ey9 ey5 ey6 hsE
      rcases hk with ⟨rfl, rfl, rfl, rfl, rfl, rfl, rfl⟩ | ⟨rfl, rfl⟩ | ⟨rfl, rfl, rfl, rfl⟩
      · go_wp2_with fail
        refine hwd.mono ?_
        rintro e w2 ⟨rfl, hb2⟩
        have h2 := HH.out.call hb2
        obtain ⟨q, hq⟩ : ∃ q, q = w2.heap.size := ⟨_, rfl⟩
        obtain ⟨w3, hw3⟩ : ∃ w3, w3 = w2.alloc (.cells #[.int .i64 0, .bool false, .bool false, .bool false, .bool false, .bool false, .bool false] 28) := ⟨_, rfl⟩
        have h3 : ThL w w3 s b3 b4 b5 b6 bl (acc ++ upL ws 3 t b j) := by rw [hw3]; exact h2.call (below_new w2 _ _)
        have e3 : Row w3 q 28 [.int .i64 0, .bool false, .bool false, .bool false, .bool false, .bool false, .bool false] := by rw [hw3, hq]; exact Row.new w2 _ _
        have HW3 := Lib.hid hw3
        have HQ := Lib.hid hq
        have H3 := Lib.hid h3
        obtain ⟨d0, d1, d2, d3, d4, d5, d6⟩ := e3.seven.1
        have c5 : w3.cell? ⟨b5, 0, none⟩ = some (.func (.func 35) #[] #[.pointer (some ⟨bl, 0, none⟩)]) := h3.r5.cell 0
        have c6 : w3.cell? ⟨b6, 0, none⟩ = some (.func (.func 56) #[] #[.pointer (some ⟨b3, 0, none⟩), .pointer (some ⟨b4, 0, none⟩), .pointer (some ⟨b5, 0, none⟩), .pointer (some ⟨b6, 0, none⟩)]) := h3.r6.cell 0
        clear hwd hb2 h2 hw3 hq h3 e3 c4 x0
        go_upto_region 8 with (fail)
        rw [← HW3.out, ← HQ.out]
        go_wp2_with fail
        go_roundw
        case rel => exact ⟨j + 1, by omega, by go_num, by
          rw [upL_succ, ← HX.out, (show addL ws 3 x (b + (j : Int) * 8 ^ 3) = [] by exact addL_none (by rw [HSE.out]; simp [sayB, noB]) (by rw [HSE.out]; simp [sayB, noB])), List.append_nil]; exact H3.out⟩
        case measure => simp [intOf]; omega
      · cases y7
        · go_wp2_with fail
          refine hwd.mono ?_
          rintro e w2 ⟨rfl, hb2⟩
          have h2 := HH.out.call hb2
          obtain ⟨q, hq⟩ : ∃ q, q = w2.heap.size := ⟨_, rfl⟩
          obtain ⟨w3, hw3⟩ : ∃ w3, w3 = w2.alloc (.cells #[.int .i64 f, .bool true, .bool y1, .bool false, .bool false, .bool y5, .bool y6] 28) := ⟨_, rfl⟩
          have h3 : ThL w w3 s b3 b4 b5 b6 bl (acc ++ upL ws 3 t b j) := by rw [hw3]; exact h2.call (below_new w2 _ _)
          have e3 : Row w3 q 28 [.int .i64 f, .bool true, .bool y1, .bool false, .bool false, .bool y5, .bool y6] := by rw [hw3, hq]; exact Row.new w2 _ _
          have HW3 := Lib.hid hw3
          have HQ := Lib.hid hq
          have H3 := Lib.hid h3
          obtain ⟨d0, d1, d2, d3, d4, d5, d6⟩ := e3.seven.1
          have c5 : w3.cell? ⟨b5, 0, none⟩ = some (.func (.func 35) #[] #[.pointer (some ⟨bl, 0, none⟩)]) := h3.r5.cell 0
          have c6 : w3.cell? ⟨b6, 0, none⟩ = some (.func (.func 56) #[] #[.pointer (some ⟨b3, 0, none⟩), .pointer (some ⟨b4, 0, none⟩), .pointer (some ⟨b5, 0, none⟩), .pointer (some ⟨b6, 0, none⟩)]) := h3.r6.cell 0
          clear hwd hb2 h2 hw3 hq h3 e3 c4 x0
          go_upto_region 8 with (fail)
          rw [← HW3.out, ← HQ.out]
          have hs : say (FF ws) ((3 : Nat) : Int) x = 2 := by rw [HSE.out]; exact sayB_on (by rw [← HSE.out]; exact HSAY.out) (by simp [noB]) (by simp)
          have hgb := HGD.out.below j hj8 (by rw [← HX.out]; exact hs)
          rw [← HX.out, ← HF.out.1] at hgb
          have hlf := belowL2 HT.out H3.out f (b + (j : Int) * 512) hgb HLEN.out (by have := HB0.out; omega) (by have := HB0.out; omega) (by have := upL_len ws 3 t b j; have := HBD.out; simp at this ⊢; omega)
          have HS := Lib.hid hs
          clear hs hgb
          go_wp2_with fail
          refine hlf.mono ?_
          rintro e w4 ⟨rfl, h4⟩
          have H4 := Lib.hid h4
          clear hlf h4
          go_wp2_with fail
          go_roundw
          case rel => exact ⟨j + 1, by omega, by go_num, by
            have ha : addL ws 3 x (b + (j : Int) * 8 ^ 3) = (lvs ws 2 f (b + (j : Int) * 512)).map mpOf := by
              rw [addL_on (l := 2) HS.out, ← HF.out.1]; rfl
            rw [upL_succ, ← HX.out, ha, ← List.append_assoc]; exact H4.out⟩
          case measure => simp [intOf]; omega
        · exact absurd (HSE.out.trans (by simp [sayB])) HSAY.out
      · exact absurd (HSE.out.trans (by simp [sayB])) HSAY.out
    · obtain rfl : j = 8 := by omega
      have H9 := Lib.hid hh
      clear hh
      go_wp2_with fail
      go_end0
      exact ⟨rfl, by have := H9.out; rwa [upL_all] at this⟩
end
end Go.Proofs.Ytpcpcgbejinlmaa
