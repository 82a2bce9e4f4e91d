/- The way through tables that tables goes. -/
import Derived.Test.YtpcpcgbejinlmaaMk22
import Derived.Test.YtpcpcgbejinlmaaMk37
import Derived.Test.YtpcpcgbejinlmaaMk25
namespace Go.Proofs.Ytpcpcgbejinlmaa
open Go.RowKit
structure ThT (w W : World) (s : Seat) (b3 b4 b5 b6 bl : Nat) (acc : List Int) : Prop where
  bel : Below w.heap.size w W
  r3 : Row W b3 92 [.func (.func 54) #[] #[.pointer (some ⟨bl, 0, none⟩)]]
  r4 : Row W b4 34 [.pointer (some ⟨s.x, 0, none⟩)]
  r5 : Row W b5 95 [.func (.func 55) #[] #[]]
  r6 : Row W b6 116 [.func (.func 56) #[] #[.pointer (some ⟨b3, 0, none⟩), .pointer (some ⟨b4, 0, none⟩), .pointer (some ⟨b5, 0, none⟩), .pointer (some ⟨b6, 0, none⟩)]]
  lo : w.heap.size ≤ bl
  acc : ∃ vl, Row W bl 44 [vl] ∧ W.ownsRow w.heap.size 3 1 vl acc.length (acc.map (Value.int .i64))
theorem ThT.call {w W W' : World} {s : Seat} {b3 b4 b5 b6 bl : Nat} {acc : List Int} (h : ThT w W s b3 b4 b5 b6 bl acc) (hb : Below W.heap.size W W') : ThT w W' s b3 b4 b5 b6 bl acc := by
  obtain ⟨vl, h1, h2⟩ := h.acc
  exact ⟨h.bel.trans (hb.mono h.bel.size), h.r3.below hb h.r3.lt, h.r4.below hb h.r4.lt, h.r5.below hb h.r5.lt, h.r6.below hb h.r6.lt, h.lo, vl, h1.below hb h1.lt, own_call h2 hb⟩
set_option maxHeartbeats 1000000 in
theorem thTabT {w W : World} {s : Seat} {b3 b4 b5 b6 bl : Nat} {acc : List Int} (h : ThT w W s b3 b4 b5 b6 bl acc) (hn : acc.length ≤ 5000) (t : Int) : Calls Try.prog 54 #[.int .i64 t, .pointer (some ⟨bl, 0, none⟩)] W fun e W' => e = .returned (.tuple #[]) ∧ ThT w W' s b3 b4 b5 b6 bl (acc ++ [t]) := by
  obtain ⟨vl, h1, h21⟩ := h.acc
  obtain ⟨A, c, rfl⟩ := own_form h21
  obtain ⟨A5, c5, W5, r5, o5, g5⟩ := app1_run h.bel.size h21 (by omega) t
  have hne : some bl ≠ (Value.slice A acc.length c).ownBlock := fun e => by
    rcases h21.2 with ⟨e1, _⟩ | ⟨g, cap, cur, e1, _, hc, _⟩
    · rw [e1] at e; cases e
    · rw [e1] at e; injection e with e; subst e
      unfold Row at h1
      rw [h1] at hc; injection hc with hc; injection hc with _ hc; exact absurd hc (by decide)
  have hfar : ∀ {b : Nat} {t : TypeId} {vs : List Value}, Row W b t vs → t ≠ 3 → Row W5 b t vs := fun r ht => r.grown g5 (fun e => by
    rcases h21.2 with ⟨e1, _⟩ | ⟨g, cap, cur, e1, _, hc, _⟩
    · rw [e1] at e; cases e
    · rw [e1] at e; injection e with e; subst e
      unfold Row at r
      rw [r] at hc; injection hc with hc; injection hc with _ hc; exact ht hc)
  have l5 := h1.grown g5 hne
  have hlo := h.lo
  have B5 := h.bel.grown g5 h.bel.size (fun r e => (h21.lt r e).1)
  obtain ⟨W6, hW6⟩ : ∃ W6, W6 = W5.setCell ⟨bl, 0, none⟩ (.slice A5 (acc.length + 1) c5) := ⟨_, rfl⟩
  have hT6 : Hid (ThT w W6 s b3 b4 b5 b6 bl (acc ++ [t])) := by
    have e3 : b3 ≠ bl := (hfar h.r3 (by decide)).apart l5 (by decide)
    have e4 : b4 ≠ bl := (hfar h.r4 (by decide)).apart l5 (by decide)
    have e5 : b5 ≠ bl := (hfar h.r5 (by decide)).apart l5 (by decide)
    have e6 : b6 ≠ bl := (hfar h.r6 (by decide)).apart l5 (by decide)
    rw [hW6]
    refine ⟨B5.setCell (p := ⟨bl, 0, none⟩) hlo _, (hfar h.r3 (by decide)).far (p := ⟨bl, 0, none⟩) e3 _, (hfar h.r4 (by decide)).far (p := ⟨bl, 0, none⟩) e4 _, (hfar h.r5 (by decide)).far (p := ⟨bl, 0, none⟩) e5 _, (hfar h.r6 (by decide)).far (p := ⟨bl, 0, none⟩) e6 _, hlo, .slice A5 (acc.length + 1) c5, l5.set_ 0 _, ?_⟩
    rw [List.length_append, List.map_append]
    exact own_keep o5 fun b hb => Below.heap_setCell W5 _ _ b (by
      rintro rfl
      rcases o5.2 with ⟨e1, _⟩ | ⟨g, cap, cur, e1, _, hc, _⟩
      · rw [e1] at hb; cases hb
      · rw [e1] at hb; injection hb with hb; subst hb
        unfold Row at l5
        rw [l5] at hc; injection hc with hc; injection hc with _ hc; exact absurd hc (by decide))
  have c0 : W.cell? ⟨bl, 0, none⟩ = some (.slice A acc.length c) := h1.cell 0
  have f5 : W5.frozen? ⟨bl, 0, none⟩ = false := l5.frozen 0
  have d5 : W5.cell? ⟨bl, 0, none⟩ = some (.slice A acc.length c) := l5.cell 0
  obtain ⟨n, hn⟩ : ∃ n, n = acc.length := ⟨_, rfl⟩
  have HW6 := Lib.hid hW6
  rw [← hn] at r5 c0 d5 HW6
  clear hW6 hn h h1 h21 l5 B5 hfar hne o5 g5 hlo
  go_enter Try.func54, Try.ntmps54
  go_wp2_with (at_builtin; refine wpList_append_run rfl _ _ 44 rfl (.slice A n c) (.slice (some ⟨W.heap.size, 0, none⟩) 1 1) rfl rfl r5 ?_)
  go_end0
  exact ⟨rfl, by rw [← HW6.out]; exact hT6.out⟩
theorem thLeafT {w W : World} {s : Seat} {b3 b4 b5 b6 bl : Nat} {acc : List Int} (h : ThT w W s b3 b4 b5 b6 bl acc) (m : Mp) : Calls Try.prog 55 #[.agg (mcell m).toArray] W fun e W' => e = .returned (.tuple #[]) ∧ ThT w W' s b3 b4 b5 b6 bl acc := by
  unfold mcell
  go_enter Try.func55, Try.ntmps55
  go_wp2
  go_end0
  exact ⟨rfl, h.call (below_new _ _ _)⟩
def upT (ws : List Int) (l : Nat) (t : Int) (j : Nat) : List Int := t :: (List.range j).flatMap fun i : Nat => subt ws l (wd ws t (i : Int))
theorem upT_succ (ws : List Int) (l : Nat) (t : Int) (j : Nat) : upT ws l t (j + 1) = upT ws l t j ++ subt ws l (wd ws t (j : Int)) := by simp [upT, List.range_succ]
theorem upT_all (ws : List Int) (l : Nat) (t : Int) : upT ws l t 8 = tabs ws l t := (tabs_eq ws l t).symm
theorem tabs_len (ws : List Int) : ∀ (l : Nat) (t : Int), (tabs ws l t).length ≤ 8 ^ l + (8 ^ l - 1) := by
  intro l
  induction l with
  | zero => intro t; simp [tabs]
  | succ l ih =>
    intro t
    rw [tabs_eq, List.length_cons]
    have := flat_len (f := fun i : Nat => subt ws (l + 1) (wd ws t (i : Int))) (k := 8 ^ l + (8 ^ l - 1)) 8 (fun i _ => by
      simp only [subt]
      split
      · exact ih _
      · simp)
    have h1 : 1 ≤ 8 ^ l := Nat.pos_of_ne_zero (by simp)
    rw [Nat.pow_succ]
    omega
theorem subt_len (ws : List Int) (l : Nat) (x : Int) : (subt ws (l + 1) x).length ≤ 8 ^ l + (8 ^ l - 1) := by
  simp only [subt]
  split
  · exact tabs_len ws l (unF x)
  · simp
theorem upT_len1 (ws : List Int) (t : Int) (j : Nat) : (upT ws 1 t j).length ≤ 1 + j * 1 := by
  unfold upT
  rw [List.length_cons]
  have := flat_len (f := fun i : Nat => subt ws 1 (wd ws t (i : Int))) (k := 1) j (fun i _ => subt_len ws 0 _)
  omega
theorem upT_len2 (ws : List Int) (t : Int) (j : Nat) : (upT ws 2 t j).length ≤ 1 + j * 15 := by
  unfold upT
  rw [List.length_cons]
  have := flat_len (f := fun i : Nat => subt ws 2 (wd ws t (i : Int))) (k := 15) j (fun i _ => by simpa using subt_len ws 1 _)
  omega
theorem upT_len3 (ws : List Int) (t : Int) (j : Nat) : (upT ws 3 t j).length ≤ 1 + j * 127 := by
  unfold upT
  rw [List.length_cons]
  have := flat_len (f := fun i : Nat => subt ws 3 (wd ws t (i : Int))) (k := 127) j (fun i _ => by simpa using subt_len ws 2 _)
  omega
section
variable {w w0 : World} {s : Seat} {v : Value} {ws L R : List Int} {b3 b4 b5 b6 bl : Nat}
set_option maxRecDepth 100000 in
set_option maxHeartbeats 1000000 in
theorem belowT0 {W : World} {acc : List Int} (hT : Tab w s v ws L R) (h : ThT w W s b3 b4 b5 b6 bl acc) (t b : Int) (hg : Good ws 0 t) (hlen : ws.length = 4096) (b0 : 0 ≤ b) (b1 : b + 8 ≤ 4096) (hbd : acc.length + 1 ≤ 5000) :
    Calls Try.prog 56 #[.int .i64 t, .int .i64 0, .int .i64 b, .pointer (some ⟨b3, 0, none⟩), .pointer (some ⟨b4, 0, none⟩), .pointer (some ⟨b5, 0, none⟩), .pointer (some ⟨b6, 0, none⟩)] W fun e W' => e = .returned (.tuple #[]) ∧ ThT w W' s b3 b4 b5 b6 bl (acc ++ tabs ws 0 t) := by
  have hfr := hg.frame
  have hFF : FF ws = 512 := by unfold FF; rw [hlen]; rfl
  have HT := Lib.hid hT
  have HGD := Lib.hid hg
  have HB0 := Lib.hid (And.intro b0 b1)
  have HLEN := Lib.hid hlen
  have HBD := Lib.hid hbd
  have HFF := Lib.hid hFF
  have HFR := Lib.hid hfr
  have c3 : W.cell? ⟨b3, 0, none⟩ = some (.func (.func 54) #[] #[.pointer (some ⟨bl, 0, none⟩)]) := h.r3.cell 0
  have htab := thTabT h (by omega) t
  clear hT hg hlen hbd hFF hfr h
  go_enter Try.func56, Try.ntmps56
  go_wp2_with fail
  refine htab.mono ?_
  rintro e W1 ⟨rfl, h1⟩
  have H1 := Lib.hid h1
  clear htab c3 h1
  go_wp2_with fail
  go_loopw [20] (fun i wx => ∃ j : Nat, j ≤ 8 ∧ i = .int .i64 j ∧ ThT w wx s b3 b4 b5 b6 bl (acc ++ upT ws 0 t j)) (fun i _ => 8 - (intOf i).toNat)
  case atStart => exact ⟨0, by omega, rfl, by simpa [upT] using H1.out⟩
  case round =>
    obtain ⟨j, hj, rfl, hh⟩ := hrel
    by_cases hj8 : j < 8
    · obtain ⟨x, ex⟩ : ∃ x, x = wd ws t (j : Int) := ⟨_, rfl⟩
      have hT9 := HT.out.call hh.bel
      have hin : inT 4096 t j = true := by
        have h1 := HFR.out.1
        have h2 := HFR.out.2
        rw [HFF.out] at h2
        exact inT_iff.2 ⟨h1, by omega, by omega, by omega⟩
      have hwd := word_any hT9.ram t (j : Int)
      rw [← ex, show wdE 4096 x t j = unErr x by simp [wdE, hin]] at hwd
      have hsay := HGD.out.entry j hj8
      rw [← ex] at hsay
      have hok : unOK x = true := by
        cases e : unOK x
        · exfalso; apply hsay; unfold say sayB; rw [if_pos e]
        · rfl
      have he : unErr x = 0 := by simp [unErr, hok]
      rw [he] at hwd
      unfold unE at hwd
      obtain ⟨x0, -, -⟩ := hT9.cells
      have c4 : wr.cell? ⟨b4, 0, none⟩ = some (.pointer (some ⟨s.x, 0, none⟩)) := hh.r4.cell 0
      have hws : IntKind.i64.wrap ((j : Int)) = (j : Int) := IntWalk.i64_in _ (by omega)
      have hwb : IntKind.i64.wrap (b + (j : Int)) = b + (j : Int) := IntWalk.i64_in _ (by have := HB0.out; omega)
      have HH := Lib.hid hh
      have HX := Lib.hid ex
      have HSAY := Lib.hid hsay
      have HT9 := Lib.hid hT9
      obtain ⟨f, ef⟩ : ∃ f, f = unF x := ⟨_, rfl⟩
      obtain ⟨y0, ey0⟩ : ∃ y, y = unB x 0 := ⟨_, rfl⟩
      obtain ⟨y1, ey1⟩ : ∃ y, y = unB x 1 := ⟨_, rfl⟩
      obtain ⟨y7, ey7⟩ : ∃ y, y = unB x 7 := ⟨_, rfl⟩
      obtain ⟨y9, ey9⟩ : ∃ y, y = unB x 9 := ⟨_, rfl⟩
      obtain ⟨y5, ey5⟩ : ∃ y, y = unB x 5 := ⟨_, rfl⟩
      obtain ⟨y6, ey6⟩ : ∃ y, y = unB x 6 := ⟨_, rfl⟩
      rw [← ef, ← ey0, ← ey1, ← ey7, ← ey9, ← ey5, ← ey6] at hwd
      have hk := kinds hok
      rw [← ef, ← ey0, ← ey1, ← ey7, ← ey9, ← ey5, ← ey6] at hk
      have hsE : say (FF ws) ((0 : Nat) : Int) x = sayB 512 0 true f y0 y1 y7 y9 y5 y6 := by unfold say; rw [hok, HFF.out, ← ef, ← ey0, ← ey1, ← ey7, ← ey9, ← ey5, ← ey6]; rfl
      have HSE := Lib.hid hsE
      have HF := Lib.hid (And.intro ef (And.intro ey0 (And.intro ey1 (And.intro ey7 (And.intro ey9 (And.intro ey5 ey6))))))
      clear hh ex hsay hT9 hin he hok ef ey0 ey1 ey7 ey9 ey5 ey6 hsE
      rcases hk with ⟨rfl, rfl, rfl, rfl, rfl, rfl, rfl⟩ | ⟨rfl, rfl⟩ | ⟨rfl, rfl, rfl, rfl⟩
      · go_wp2_with fail
        refine hwd.mono ?_
        rintro e w2 ⟨rfl, hb2⟩
        have h2 := HH.out.call hb2
        obtain ⟨q, hq⟩ : ∃ q, q = w2.heap.size := ⟨_, rfl⟩
        obtain ⟨w3, hw3⟩ : ∃ w3, w3 = w2.alloc (.cells #[.int .i64 0, .bool false, .bool false, .bool false, .bool false, .bool false, .bool false] 28) := ⟨_, rfl⟩
        have h3 : ThT w w3 s b3 b4 b5 b6 bl (acc ++ upT ws 0 t j) := by rw [hw3]; exact h2.call (below_new w2 _ _)
        have e3 : Row w3 q 28 [.int .i64 0, .bool false, .bool false, .bool false, .bool false, .bool false, .bool false] := by rw [hw3, hq]; exact Row.new w2 _ _
        have HW3 := Lib.hid hw3
        have HQ := Lib.hid hq
        have H3 := Lib.hid h3
        obtain ⟨d0, d1, d2, d3, d4, d5, d6⟩ := e3.seven.1
        have c5 : w3.cell? ⟨b5, 0, none⟩ = some (.func (.func 55) #[] #[]) := h3.r5.cell 0
        have c6 : w3.cell? ⟨b6, 0, none⟩ = some (.func (.func 56) #[] #[.pointer (some ⟨b3, 0, none⟩), .pointer (some ⟨b4, 0, none⟩), .pointer (some ⟨b5, 0, none⟩), .pointer (some ⟨b6, 0, none⟩)]) := h3.r6.cell 0
        clear hwd hb2 h2 hw3 hq h3 e3 c4 x0
        go_upto_region 8 with (fail)
        rw [← HW3.out, ← HQ.out]
        go_wp2_with fail
        go_roundw
        case rel => exact ⟨j + 1, by omega, by go_num, by
          rw [upT_succ, ← HX.out, (show subt ws 0 x = [] by simp [subt]), List.append_nil]; exact H3.out⟩
        case measure => simp [intOf]; omega
      · cases y7
        · go_wp2_with fail
          refine hwd.mono ?_
          rintro e w2 ⟨rfl, hb2⟩
          have h2 := HH.out.call hb2
          obtain ⟨q, hq⟩ : ∃ q, q = w2.heap.size := ⟨_, rfl⟩
          obtain ⟨w3, hw3⟩ : ∃ w3, w3 = w2.alloc (.cells #[.int .i64 f, .bool true, .bool y1, .bool false, .bool false, .bool y5, .bool y6] 28) := ⟨_, rfl⟩
          have h3 : ThT w w3 s b3 b4 b5 b6 bl (acc ++ upT ws 0 t j) := by rw [hw3]; exact h2.call (below_new w2 _ _)
          have e3 : Row w3 q 28 [.int .i64 f, .bool true, .bool y1, .bool false, .bool false, .bool y5, .bool y6] := by rw [hw3, hq]; exact Row.new w2 _ _
          have HW3 := Lib.hid hw3
          have HQ := Lib.hid hq
          have H3 := Lib.hid h3
          obtain ⟨d0, d1, d2, d3, d4, d5, d6⟩ := e3.seven.1
          have c5 : w3.cell? ⟨b5, 0, none⟩ = some (.func (.func 55) #[] #[]) := h3.r5.cell 0
          have c6 : w3.cell? ⟨b6, 0, none⟩ = some (.func (.func 56) #[] #[.pointer (some ⟨b3, 0, none⟩), .pointer (some ⟨b4, 0, none⟩), .pointer (some ⟨b5, 0, none⟩), .pointer (some ⟨b6, 0, none⟩)]) := h3.r6.cell 0
          clear hwd hb2 h2 hw3 hq h3 e3 c4 x0
          go_upto_region 8 with (fail)
          rw [← HW3.out, ← HQ.out]
          have hlf := thLeafT H3.out ⟨b + (j : Int), 0, f, true, y1, false, false, y5, y6⟩
          simp only [mcell] at hlf
          go_wp2_with fail
          refine hlf.mono ?_
          rintro e w4 ⟨rfl, h4⟩
          have H4 := Lib.hid h4
          clear hlf h4
          go_wp2_with fail
          go_roundw
          case rel => exact ⟨j + 1, by omega, by go_num, by
            rw [upT_succ, ← HX.out, (show subt ws 0 x = [] by simp [subt]), List.append_nil]; exact H4.out⟩
          case measure => simp [intOf]; omega
        · exact absurd (HSE.out.trans (by simp [sayB])) HSAY.out
      · go_wp2_with fail
        refine hwd.mono ?_
        rintro e w2 ⟨rfl, hb2⟩
        have h2 := HH.out.call hb2
        obtain ⟨q, hq⟩ : ∃ q, q = w2.heap.size := ⟨_, rfl⟩
        obtain ⟨w3, hw3⟩ : ∃ w3, w3 = w2.alloc (.cells #[.int .i64 f, .bool false, .bool false, .bool false, .bool true, .bool y5, .bool y6] 28) := ⟨_, rfl⟩
        have h3 : ThT w w3 s b3 b4 b5 b6 bl (acc ++ upT ws 0 t j) := by rw [hw3]; exact h2.call (below_new w2 _ _)
        have e3 : Row w3 q 28 [.int .i64 f, .bool false, .bool false, .bool false, .bool true, .bool y5, .bool y6] := by rw [hw3, hq]; exact Row.new w2 _ _
        have HW3 := Lib.hid hw3
        have HQ := Lib.hid hq
        have H3 := Lib.hid h3
        obtain ⟨d0, d1, d2, d3, d4, d5, d6⟩ := e3.seven.1
        have c5 : w3.cell? ⟨b5, 0, none⟩ = some (.func (.func 55) #[] #[]) := h3.r5.cell 0
        have c6 : w3.cell? ⟨b6, 0, none⟩ = some (.func (.func 56) #[] #[.pointer (some ⟨b3, 0, none⟩), .pointer (some ⟨b4, 0, none⟩), .pointer (some ⟨b5, 0, none⟩), .pointer (some ⟨b6, 0, none⟩)]) := h3.r6.cell 0
        clear hwd hb2 h2 hw3 hq h3 e3 c4 x0
        go_upto_region 8 with (fail)
        rw [← HW3.out, ← HQ.out]
        have hlf := thLeafT H3.out ⟨b + (j : Int), 0, f, false, false, false, true, y5, y6⟩
        simp only [mcell] at hlf
        go_wp2_with fail
        refine hlf.mono ?_
        rintro e w4 ⟨rfl, h4⟩
        have H4 := Lib.hid h4
        clear hlf h4
        go_wp2_with fail
        go_roundw
        case rel => exact ⟨j + 1, by omega, by go_num, by
          rw [upT_succ, ← HX.out, (show subt ws 0 x = [] by simp [subt]), List.append_nil]; exact H4.out⟩
        case measure => simp [intOf]; omega
    · obtain rfl : j = 8 := by omega
      have H9 := Lib.hid hh
      clear hh
      go_wp2_with fail
      go_end0
      exact ⟨rfl, by have := H9.out; rwa [upT_all] at this⟩
end
section
variable {w w0 : World} {s : Seat} {v : Value} {ws L R : List Int} {b3 b4 b5 b6 bl : Nat}
set_option maxRecDepth 100000 in
set_option maxHeartbeats 1000000 in
theorem belowT1 {W : World} {acc : List Int} (hT : Tab w s v ws L R) (h : ThT w W s b3 b4 b5 b6 bl acc) (t b : Int) (hg : Good ws 1 t) (hlen : ws.length = 4096) (b0 : 0 ≤ b) (b1 : b + 64 ≤ 4096) (hbd : acc.length + 20 ≤ 5000) :
    Calls Try.prog 56 #[.int .i64 t, .int .i64 1, .int .i64 b, .pointer (some ⟨b3, 0, none⟩), .pointer (some ⟨b4, 0, none⟩), .pointer (some ⟨b5, 0, none⟩), .pointer (some ⟨b6, 0, none⟩)] W fun e W' => e = .returned (.tuple #[]) ∧ ThT w W' s b3 b4 b5 b6 bl (acc ++ tabs ws 1 t) := by
  have hfr := hg.frame
  have hFF : FF ws = 512 := by unfold FF; rw [hlen]; rfl
  have HT := Lib.hid hT
  have HGD := Lib.hid hg
  have HB0 := Lib.hid (And.intro b0 b1)
  have HLEN := Lib.hid hlen
  have HBD := Lib.hid hbd
  have HFF := Lib.hid hFF
  have HFR := Lib.hid hfr
  have c3 : W.cell? ⟨b3, 0, none⟩ = some (.func (.func 54) #[] #[.pointer (some ⟨bl, 0, none⟩)]) := h.r3.cell 0
  have htab := thTabT h (by omega) t
  clear hT hg hlen hbd hFF hfr h
  go_enter Try.func56, Try.ntmps56
  go_wp2_with fail
  refine htab.mono ?_
  rintro e W1 ⟨rfl, h1⟩
  have H1 := Lib.hid h1
  clear htab c3 h1
  go_wp2_with fail
  go_loopw [20] (fun i wx => ∃ j : Nat, j ≤ 8 ∧ i = .int .i64 j ∧ ThT w wx s b3 b4 b5 b6 bl (acc ++ upT ws 1 t j)) (fun i _ => 8 - (intOf i).toNat)
  case atStart => exact ⟨0, by omega, rfl, by simpa [upT] using H1.out⟩
  case round =>
    obtain ⟨j, hj, rfl, hh⟩ := hrel
    by_cases hj8 : j < 8
    · obtain ⟨x, ex⟩ : ∃ x, x = wd ws t (j : Int) := ⟨_, rfl⟩
      have hT9 := HT.out.call hh.bel
      have hin : inT 4096 t j = true := by
        have h1 := HFR.out.1
        have h2 := HFR.out.2
        rw [HFF.out] at h2
        exact inT_iff.2 ⟨h1, by omega, by omega, by omega⟩
      have hwd := word_any hT9.ram t (j : Int)
      rw [← ex, show wdE 4096 x t j = unErr x by simp [wdE, hin]] at hwd
      have hsay := HGD.out.entry j hj8
      rw [← ex] at hsay
      have hok : unOK x = true := by
        cases e : unOK x
        · exfalso; apply hsay; unfold say sayB; rw [if_pos e]
        · rfl
      have he : unErr x = 0 := by simp [unErr, hok]
      rw [he] at hwd
      unfold unE at hwd
      obtain ⟨x0, -, -⟩ := hT9.cells
      have c4 : wr.cell? ⟨b4, 0, none⟩ = some (.pointer (some ⟨s.x, 0, none⟩)) := hh.r4.cell 0
      have hws : IntKind.i64.wrap ((j : Int) * 8) = (j : Int) * 8 := IntWalk.i64_in _ (by omega)
      have hwb : IntKind.i64.wrap (b + (j : Int) * 8) = b + (j : Int) * 8 := IntWalk.i64_in _ (by have := HB0.out; omega)
      have HH := Lib.hid hh
      have HX := Lib.hid ex
      have HSAY := Lib.hid hsay
      have HT9 := Lib.hid hT9
      obtain ⟨f, ef⟩ : ∃ f, f = unF x := ⟨_, rfl⟩
      obtain ⟨y0, ey0⟩ : ∃ y, y = unB x 0 := ⟨_, rfl⟩
      obtain ⟨y1, ey1⟩ : ∃ y, y = unB x 1 := ⟨_, rfl⟩
      obtain ⟨y7, ey7⟩ : ∃ y, y = unB x 7 := ⟨_, rfl⟩
      obtain ⟨y9, ey9⟩ : ∃ y, y = unB x 9 := ⟨_, rfl⟩
      obtain ⟨y5, ey5⟩ : ∃ y, y = unB x 5 := ⟨_, rfl⟩
      obtain ⟨y6, ey6⟩ : ∃ y, y = unB x 6 := ⟨_, rfl⟩
      rw [← ef, ← ey0, ← ey1, ← ey7, ← ey9, ← ey5, ← ey6] at hwd
      have hk := kinds hok
      rw [← ef, ← ey0, ← ey1, ← ey7, ← ey9, ← ey5, ← ey6] at hk
      have hsE : say (FF ws) ((1 : Nat) : Int) x = sayB 512 1 true f y0 y1 y7 y9 y5 y6 := by unfold say; rw [hok, HFF.out, ← ef, ← ey0, ← ey1, ← ey7, ← ey9, ← ey5, ← ey6]; rfl
      have HSE := Lib.hid hsE
      have HF := Lib.hid (And.intro ef (And.intro ey0 (And.intro ey1 (And.intro ey7 (And.intro ey9 (And.intro ey5 ey6))))))
      clear hh ex hsay hT9 hin he hok ef ey0 ey1 ey7 ey9 ey5 ey6 hsE
      rcases hk with ⟨rfl, rfl, rfl, rfl, rfl, rfl, rfl⟩ | ⟨rfl, rfl⟩ | ⟨rfl, rfl, rfl, rfl⟩
      · go_wp2_with fail
        refine hwd.mono ?_
        rintro e w2 ⟨rfl, hb2⟩
        have h2 := HH.out.call hb2
        obtain ⟨q, hq⟩ : ∃ q, q = w2.heap.size := ⟨_, rfl⟩
        obtain ⟨w3, hw3⟩ : ∃ w3, w3 = w2.alloc (.cells #[.int .i64 0, .bool false, .bool false, .bool false, .bool false, .bool false, .bool false] 28) := ⟨_, rfl⟩
        have h3 : ThT w w3 s b3 b4 b5 b6 bl (acc ++ upT ws 1 t j) := by rw [hw3]; exact h2.call (below_new w2 _ _)
        have e3 : Row w3 q 28 [.int .i64 0, .bool false, .bool false, .bool false, .bool false, .bool false, .bool false] := by rw [hw3, hq]; exact Row.new w2 _ _
        have HW3 := Lib.hid hw3
        have HQ := Lib.hid hq
        have H3 := Lib.hid h3
        obtain ⟨d0, d1, d2, d3, d4, d5, d6⟩ := e3.seven.1
        have c5 : w3.cell? ⟨b5, 0, none⟩ = some (.func (.func 55) #[] #[]) := h3.r5.cell 0
        have c6 : w3.cell? ⟨b6, 0, none⟩ = some (.func (.func 56) #[] #[.pointer (some ⟨b3, 0, none⟩), .pointer (some ⟨b4, 0, none⟩), .pointer (some ⟨b5, 0, none⟩), .pointer (some ⟨b6, 0, none⟩)]) := h3.r6.cell 0
        clear hwd hb2 h2 hw3 hq h3 e3 c4 x0
        go_upto_region 8 with (fail)
        rw [← HW3.out, ← HQ.out]
        go_wp2_with fail
        go_roundw
        case rel => exact ⟨j + 1, by omega, by go_num, by
          rw [upT_succ, ← HX.out, (show subt ws 1 x = [] by simp only [subt]; rw [if_neg (by rw [HSE.out]; simp [sayB, noB])]), List.append_nil]; exact H3.out⟩
        case measure => simp [intOf]; omega
      · cases y7
        · go_wp2_with fail
          refine hwd.mono ?_
          rintro e w2 ⟨rfl, hb2⟩
          have h2 := HH.out.call hb2
          obtain ⟨q, hq⟩ : ∃ q, q = w2.heap.size := ⟨_, rfl⟩
          obtain ⟨w3, hw3⟩ : ∃ w3, w3 = w2.alloc (.cells #[.int .i64 f, .bool true, .bool y1, .bool false, .bool false, .bool y5, .bool y6] 28) := ⟨_, rfl⟩
          have h3 : ThT w w3 s b3 b4 b5 b6 bl (acc ++ upT ws 1 t j) := by rw [hw3]; exact h2.call (below_new w2 _ _)
          have e3 : Row w3 q 28 [.int .i64 f, .bool true, .bool y1, .bool false, .bool false, .bool y5, .bool y6] := by rw [hw3, hq]; exact Row.new w2 _ _
          have HW3 := Lib.hid hw3
          have HQ := Lib.hid hq
          have H3 := Lib.hid h3
          obtain ⟨d0, d1, d2, d3, d4, d5, d6⟩ := e3.seven.1
          have c5 : w3.cell? ⟨b5, 0, none⟩ = some (.func (.func 55) #[] #[]) := h3.r5.cell 0
          have c6 : w3.cell? ⟨b6, 0, none⟩ = some (.func (.func 56) #[] #[.pointer (some ⟨b3, 0, none⟩), .pointer (some ⟨b4, 0, none⟩), .pointer (some ⟨b5, 0, none⟩), .pointer (some ⟨b6, 0, none⟩)]) := h3.r6.cell 0
          clear hwd hb2 h2 hw3 hq h3 e3 c4 x0
          go_upto_region 8 with (fail)
          rw [← HW3.out, ← HQ.out]
          have hs : say (FF ws) ((1 : Nat) : Int) x = 2 := by rw [HSE.out]; exact sayB_on (by rw [← HSE.out]; exact HSAY.out) (by simp [noB]) (by simp)
          have hgb := HGD.out.below j hj8 (by rw [← HX.out]; exact hs)
          rw [← HX.out, ← HF.out.1] at hgb
          have hlf := belowT0 HT.out H3.out f (b + (j : Int) * 8) hgb HLEN.out (by have := HB0.out; omega) (by have := HB0.out; omega) (by have h1 := upT_len1 ws t j; have h2 := HBD.out; simp only [List.length_append]; omega)
          have HS := Lib.hid hs
          clear hs hgb
          go_wp2_with fail
          refine hlf.mono ?_
          rintro e w4 ⟨rfl, h4⟩
          have H4 := Lib.hid h4
          clear hlf h4
          go_wp2_with fail
          go_roundw
          case rel => exact ⟨j + 1, by omega, by go_num, by
            rw [upT_succ, ← HX.out, (show subt ws 1 x = tabs ws 0 f by simp only [subt]; rw [if_pos HS.out, ← HF.out.1]), ← List.append_assoc]; exact H4.out⟩
          case measure => simp [intOf]; omega
        · go_wp2_with fail
          refine hwd.mono ?_
          rintro e w2 ⟨rfl, hb2⟩
          have h2 := HH.out.call hb2
          obtain ⟨q, hq⟩ : ∃ q, q = w2.heap.size := ⟨_, rfl⟩
          obtain ⟨w3, hw3⟩ : ∃ w3, w3 = w2.alloc (.cells #[.int .i64 f, .bool true, .bool y1, .bool true, .bool false, .bool y5, .bool y6] 28) := ⟨_, rfl⟩
          have h3 : ThT w w3 s b3 b4 b5 b6 bl (acc ++ upT ws 1 t j) := by rw [hw3]; exact h2.call (below_new w2 _ _)
          have e3 : Row w3 q 28 [.int .i64 f, .bool true, .bool y1, .bool true, .bool false, .bool y5, .bool y6] := by rw [hw3, hq]; exact Row.new w2 _ _
          have HW3 := Lib.hid hw3
          have HQ := Lib.hid hq
          have H3 := Lib.hid h3
          obtain ⟨d0, d1, d2, d3, d4, d5, d6⟩ := e3.seven.1
          have c5 : w3.cell? ⟨b5, 0, none⟩ = some (.func (.func 55) #[] #[]) := h3.r5.cell 0
          have c6 : w3.cell? ⟨b6, 0, none⟩ = some (.func (.func 56) #[] #[.pointer (some ⟨b3, 0, none⟩), .pointer (some ⟨b4, 0, none⟩), .pointer (some ⟨b5, 0, none⟩), .pointer (some ⟨b6, 0, none⟩)]) := h3.r6.cell 0
          clear hwd hb2 h2 hw3 hq h3 e3 c4 x0
          go_upto_region 8 with (fail)
          rw [← HW3.out, ← HQ.out]
          have hlf := thLeafT H3.out ⟨b + (j : Int) * 8, 3, f, true, y1, true, false, y5, y6⟩
          simp only [mcell] at hlf
          go_wp2_with fail
          refine hlf.mono ?_
          rintro e w4 ⟨rfl, h4⟩
          have H4 := Lib.hid h4
          clear hlf h4
          go_wp2_with fail
          go_roundw
          case rel => exact ⟨j + 1, by omega, by go_num, by
            rw [upT_succ, ← HX.out, (show subt ws 1 x = [] by simp only [subt]; rw [if_neg (by rw [HSE.out]; rw [sayB_leaf (by rw [← HSE.out]; exact HSAY.out) (by simp [noB]) (by simp)]; omega)]), List.append_nil]; exact H4.out⟩
          case measure => simp [intOf]; omega
      · exact absurd (HSE.out.trans (by simp [sayB])) HSAY.out
    · obtain rfl : j = 8 := by omega
      have H9 := Lib.hid hh
      clear hh
      go_wp2_with fail
      go_end0
      exact ⟨rfl, by have := H9.out; rwa [upT_all] at this⟩
end
section
variable {w w0 : World} {s : Seat} {v : Value} {ws L R : List Int} {b3 b4 b5 b6 bl : Nat}
set_option maxRecDepth 100000 in
set_option maxHeartbeats 1000000 in
theorem belowT2 {W : World} {acc : List Int} (hT : Tab w s v ws L R) (h : ThT w W s b3 b4 b5 b6 bl acc) (t b : Int) (hg : Good ws 2 t) (hlen : ws.length = 4096) (b0 : 0 ≤ b) (b1 : b + 512 ≤ 4096) (hbd : acc.length + 160 ≤ 5000) :
    Calls Try.prog 56 #[.int .i64 t, .int .i64 2, .int .i64 b, .pointer (some ⟨b3, 0, none⟩), .pointer (some ⟨b4, 0, none⟩), .pointer (some ⟨b5, 0, none⟩), .pointer (some ⟨b6, 0, none⟩)] W fun e W' => e = .returned (.tuple #[]) ∧ ThT w W' s b3 b4 b5 b6 bl (acc ++ tabs ws 2 t) := by
  have hfr := hg.frame
  have hFF : FF ws = 512 := by unfold FF; rw [hlen]; rfl
  have HT := Lib.hid hT
  have HGD := Lib.hid hg
  have HB0 := Lib.hid (And.intro b0 b1)
  have HLEN := Lib.hid hlen
  have HBD := Lib.hid hbd
  have HFF := Lib.hid hFF
  have HFR := Lib.hid hfr
  have c3 : W.cell? ⟨b3, 0, none⟩ = some (.func (.func 54) #[] #[.pointer (some ⟨bl, 0, none⟩)]) := h.r3.cell 0
  have htab := thTabT h (by omega) t
  clear hT hg hlen hbd hFF hfr h
  go_enter Try.func56, Try.ntmps56
  go_wp2_with fail
  refine htab.mono ?_
  rintro e W1 ⟨rfl, h1⟩
  have H1 := Lib.hid h1
  clear htab c3 h1
  go_wp2_with fail
  go_loopw [20] (fun i wx => ∃ j : Nat, j ≤ 8 ∧ i = .int .i64 j ∧ ThT w wx s b3 b4 b5 b6 bl (acc ++ upT ws 2 t j)) (fun i _ => 8 - (intOf i).toNat)
  case atStart => exact ⟨0, by omega, rfl, by simpa [upT] using H1.out⟩
  case round =>
    obtain ⟨j, hj, rfl, hh⟩ := hrel
    by_cases hj8 : j < 8
    · obtain ⟨x, ex⟩ : ∃ x, x = wd ws t (j : Int) := ⟨_, rfl⟩
      have hT9 := HT.out.call hh.bel
      have hin : inT 4096 t j = true := by
        have h1 := HFR.out.1
        have h2 := HFR.out.2
        rw [HFF.out] at h2
        exact inT_iff.2 ⟨h1, by omega, by omega, by omega⟩
      have hwd := word_any hT9.ram t (j : Int)
      rw [← ex, show wdE 4096 x t j = unErr x by simp [wdE, hin]] at hwd
      have hsay := HGD.out.entry j hj8
      rw [← ex] at hsay
      have hok : unOK x = true := by
        cases e : unOK x
        · exfalso; apply hsay; unfold say sayB; rw [if_pos e]
        · rfl
      have he : unErr x = 0 := by simp [unErr, hok]
      rw [he] at hwd
      unfold unE at hwd
      obtain ⟨x0, -, -⟩ := hT9.cells
      have c4 : wr.cell? ⟨b4, 0, none⟩ = some (.pointer (some ⟨s.x, 0, none⟩)) := hh.r4.cell 0
      have hws : IntKind.i64.wrap ((j : Int) * 64) = (j : Int) * 64 := IntWalk.i64_in _ (by omega)
      have hwb : IntKind.i64.wrap (b + (j : Int) * 64) = b + (j : Int) * 64 := IntWalk.i64_in _ (by have := HB0.out; omega)
      have HH := Lib.hid hh
      have HX := Lib.hid ex
      have HSAY := Lib.hid hsay
      have HT9 := Lib.hid hT9
      obtain ⟨f, ef⟩ : ∃ f, f = unF x := ⟨_, rfl⟩
      obtain ⟨y0, ey0⟩ : ∃ y, y = unB x 0 := ⟨_, rfl⟩
      obtain ⟨y1, ey1⟩ : ∃ y, y = unB x 1 := ⟨_, rfl⟩
      obtain ⟨y7, ey7⟩ : ∃ y, y = unB x 7 := ⟨_, rfl⟩
      obtain ⟨y9, ey9⟩ : ∃ y, y = unB x 9 := ⟨_, rfl⟩
      obtain ⟨y5, ey5⟩ : ∃ y, y = unB x 5 := ⟨_, rfl⟩
      obtain ⟨y6, ey6⟩ : ∃ y, y = unB x 6 := ⟨_, rfl⟩
      rw [← ef, ← ey0, ← ey1, ← ey7, ← ey9, ← ey5, ← ey6] at hwd
      have hk := kinds hok
      rw [← ef, ← ey0, ← ey1, ← ey7, ← ey9, ← ey5, ← ey6] at hk
      have hsE : say (FF ws) ((2 : Nat) : Int) x = sayB 512 2 true f y0 y1 y7 y9 y5 y6 := by unfold say; rw [hok, HFF.out, ← ef, ← ey0, ← ey1, ← ey7, ← ey9, ← ey5, ← ey6]; rfl
      have HSE := Lib.hid hsE
      have HF := Lib.hid (And.intro ef (And.intro ey0 (And.intro ey1 (And.intro ey7 (And.intro ey9 (And.intro ey5 ey6))))))
      clear hh ex hsay hT9 hin he hok ef ey0 ey1 ey7 ey9 ey5 ey6 hsE
      rcases hk with ⟨rfl, rfl, rfl, rfl, rfl, rfl, rfl⟩ | ⟨rfl, rfl⟩ | ⟨rfl, rfl, rfl, rfl⟩
      · go_wp2_with fail
        refine hwd.mono ?_
        rintro e w2 ⟨rfl, hb2⟩
        have h2 := HH.out.call hb2
        obtain ⟨q, hq⟩ : ∃ q, q = w2.heap.size := ⟨_, rfl⟩
        obtain ⟨w3, hw3⟩ : ∃ w3, w3 = w2.alloc (.cells #[.int .i64 0, .bool false, .bool false, .bool false, .bool false, .bool false, .bool false] 28) := ⟨_, rfl⟩
        have h3 : ThT w w3 s b3 b4 b5 b6 bl (acc ++ upT ws 2 t j) := by rw [hw3]; exact h2.call (below_new w2 _ _)
        have e3 : Row w3 q 28 [.int .i64 0, .bool false, .bool false, .bool false, .bool false, .bool false, .bool false] := by rw [hw3, hq]; exact Row.new w2 _ _
        have HW3 := Lib.hid hw3
        have HQ := Lib.hid hq
        have H3 := Lib.hid h3
        obtain ⟨d0, d1, d2, d3, d4, d5, d6⟩ := e3.seven.1
        have c5 : w3.cell? ⟨b5, 0, none⟩ = some (.func (.func 55) #[] #[]) := h3.r5.cell 0
        have c6 : w3.cell? ⟨b6, 0, none⟩ = some (.func (.func 56) #[] #[.pointer (some ⟨b3, 0, none⟩), .pointer (some ⟨b4, 0, none⟩), .pointer (some ⟨b5, 0, none⟩), .pointer (some ⟨b6, 0, none⟩)]) := h3.r6.cell 0
        clear hwd hb2 h2 hw3 hq h3 e3 c4 x0
        go_upto_region 8 with (fail)
        rw [← HW3.out, ← HQ.out]
        go_wp2_with fail
        go_roundw
        case rel => exact ⟨j + 1, by omega, by go_num, by
          rw [upT_succ, ← HX.out, (show subt ws 2 x = [] by simp only [subt]; rw [if_neg (by rw [HSE.out]; simp [sayB, noB])]), List.append_nil]; exact H3.out⟩
        case measure => simp [intOf]; omega
      · cases y7
        · go_wp2_with fail
          refine hwd.mono ?_
          rintro e w2 ⟨rfl, hb2⟩
          have h2 := HH.out.call hb2
          obtain ⟨q, hq⟩ : ∃ q, q = w2.heap.size := ⟨_, rfl⟩
          obtain ⟨w3, hw3⟩ : ∃ w3, w3 = w2.alloc (.cells #[.int .i64 f, .bool true, .bool y1, .bool false, .bool false, .bool y5, .bool y6] 28) := ⟨_, rfl⟩
          have h3 : ThT w w3 s b3 b4 b5 b6 bl (acc ++ upT ws 2 t j) := by rw [hw3]; exact h2.call (below_new w2 _ _)
          have e3 : Row w3 q 28 [.int .i64 f, .bool true, .bool y1, .bool false, .bool false, .bool y5, .bool y6] := by rw [hw3, hq]; exact Row.new w2 _ _
          have HW3 := Lib.hid hw3
          have HQ := Lib.hid hq
          have H3 := Lib.hid h3
          obtain ⟨d0, d1, d2, d3, d4, d5, d6⟩ := e3.seven.1
          have c5 : w3.cell? ⟨b5, 0, none⟩ = some (.func (.func 55) #[] #[]) := h3.r5.cell 0
          have c6 : w3.cell? ⟨b6, 0, none⟩ = some (.func (.func 56) #[] #[.pointer (some ⟨b3, 0, none⟩), .pointer (some ⟨b4, 0, none⟩), .pointer (some ⟨b5, 0, none⟩), .pointer (some ⟨b6, 0, none⟩)]) := h3.r6.cell 0
          clear hwd hb2 h2 hw3 hq h3 e3 c4 x0
          go_upto_region 8 with (fail)
          rw [← HW3.out, ← HQ.out]
          have hs : say (FF ws) ((2 : Nat) : Int) x = 2 := by rw [HSE.out]; exact sayB_on (by rw [← HSE.out]; exact HSAY.out) (by simp [noB]) (by simp)
          have hgb := HGD.out.below j hj8 (by rw [← HX.out]; exact hs)
          rw [← HX.out, ← HF.out.1] at hgb
          have hlf := belowT1 HT.out H3.out f (b + (j : Int) * 64) hgb HLEN.out (by have := HB0.out; omega) (by have := HB0.out; omega) (by have h1 := upT_len2 ws t j; have h2 := HBD.out; simp only [List.length_append]; omega)
          have HS := Lib.hid hs
          clear hs hgb
          go_wp2_with fail
          refine hlf.mono ?_
          rintro e w4 ⟨rfl, h4⟩
          have H4 := Lib.hid h4
          clear hlf h4
          go_wp2_with fail
          go_roundw
          case rel => exact ⟨j + 1, by omega, by go_num, by
            rw [upT_succ, ← HX.out, (show subt ws 2 x = tabs ws 1 f by simp only [subt]; rw [if_pos HS.out, ← HF.out.1]), ← List.append_assoc]; exact H4.out⟩
          case measure => simp [intOf]; omega
        · go_wp2_with fail
          refine hwd.mono ?_
          rintro e w2 ⟨rfl, hb2⟩
          have h2 := HH.out.call hb2
          obtain ⟨q, hq⟩ : ∃ q, q = w2.heap.size := ⟨_, rfl⟩
          obtain ⟨w3, hw3⟩ : ∃ w3, w3 = w2.alloc (.cells #[.int .i64 f, .bool true, .bool y1, .bool true, .bool false, .bool y5, .bool y6] 28) := ⟨_, rfl⟩
          have h3 : ThT w w3 s b3 b4 b5 b6 bl (acc ++ upT ws 2 t j) := by rw [hw3]; exact h2.call (below_new w2 _ _)
          have e3 : Row w3 q 28 [.int .i64 f, .bool true, .bool y1, .bool true, .bool false, .bool y5, .bool y6] := by rw [hw3, hq]; exact Row.new w2 _ _
          have HW3 := Lib.hid hw3
          have HQ := Lib.hid hq
          have H3 := Lib.hid h3
          obtain ⟨d0, d1, d2, d3, d4, d5, d6⟩ := e3.seven.1
          have c5 : w3.cell? ⟨b5, 0, none⟩ = some (.func (.func 55) #[] #[]) := h3.r5.cell 0
          have c6 : w3.cell? ⟨b6, 0, none⟩ = some (.func (.func 56) #[] #[.pointer (some ⟨b3, 0, none⟩), .pointer (some ⟨b4, 0, none⟩), .pointer (some ⟨b5, 0, none⟩), .pointer (some ⟨b6, 0, none⟩)]) := h3.r6.cell 0
          clear hwd hb2 h2 hw3 hq h3 e3 c4 x0
          go_upto_region 8 with (fail)
          rw [← HW3.out, ← HQ.out]
          have hlf := thLeafT H3.out ⟨b + (j : Int) * 64, 6, f, true, y1, true, false, y5, y6⟩
          simp only [mcell] at hlf
          go_wp2_with fail
          refine hlf.mono ?_
          rintro e w4 ⟨rfl, h4⟩
          have H4 := Lib.hid h4
          clear hlf h4
          go_wp2_with fail
          go_roundw
          case rel => exact ⟨j + 1, by omega, by go_num, by
            rw [upT_succ, ← HX.out, (show subt ws 2 x = [] by simp only [subt]; rw [if_neg (by rw [HSE.out]; rw [sayB_leaf (by rw [← HSE.out]; exact HSAY.out) (by simp [noB]) (by simp)]; omega)]), List.append_nil]; exact H4.out⟩
          case measure => simp [intOf]; omega
      · exact absurd (HSE.out.trans (by simp [sayB])) HSAY.out
    · obtain rfl : j = 8 := by omega
      have H9 := Lib.hid hh
      clear hh
      go_wp2_with fail
      go_end0
      exact ⟨rfl, by have := H9.out; rwa [upT_all] at this⟩
end
section
variable {w w0 : World} {s : Seat} {v : Value} {ws L R : List Int} {b3 b4 b5 b6 bl : Nat}
set_option maxRecDepth 100000 in
set_option maxHeartbeats 1000000 in
theorem belowT3 {W : World} {acc : List Int} (hT : Tab w s v ws L R) (h : ThT w W s b3 b4 b5 b6 bl acc) (t b : Int) (hg : Good ws 3 t) (hlen : ws.length = 4096) (b0 : 0 ≤ b) (b1 : b + 4096 ≤ 4096) (hbd : acc.length + 1700 ≤ 5000) :
    Calls Try.prog 56 #[.int .i64 t, .int .i64 3, .int .i64 b, .pointer (some ⟨b3, 0, none⟩), .pointer (some ⟨b4, 0, none⟩), .pointer (some ⟨b5, 0, none⟩), .pointer (some ⟨b6, 0, none⟩)] W fun e W' => e = .returned (.tuple #[]) ∧ ThT w W' s b3 b4 b5 b6 bl (acc ++ tabs ws 3 t) := by
  have hfr := hg.frame
  have hFF : FF ws = 512 := by unfold FF; rw [hlen]; rfl
  have HT := Lib.hid hT
  have HGD := Lib.hid hg
  have HB0 := Lib.hid (And.intro b0 b1)
  have HLEN := Lib.hid hlen
  have HBD := Lib.hid hbd
  have HFF := Lib.hid hFF
  have HFR := Lib.hid hfr
  have c3 : W.cell? ⟨b3, 0, none⟩ = some (.func (.func 54) #[] #[.pointer (some ⟨bl, 0, none⟩)]) := h.r3.cell 0
  have htab := thTabT h (by omega) t
  clear hT hg hlen hbd hFF hfr h
  go_enter Try.func56, Try.ntmps56
  go_wp2_with fail
  refine htab.mono ?_
  rintro e W1 ⟨rfl, h1⟩
  have H1 := Lib.hid h1
  clear htab c3 h1
  go_wp2_with fail
  go_loopw [20] (fun i wx => ∃ j : Nat, j ≤ 8 ∧ i = .int .i64 j ∧ ThT w wx s b3 b4 b5 b6 bl (acc ++ upT ws 3 t j)) (fun i _ => 8 - (intOf i).toNat)
  case atStart => exact ⟨0, by omega, rfl, by simpa [upT] using H1.out⟩
  case round =>
    obtain ⟨j, hj, rfl, hh⟩ := hrel
    by_cases hj8 : j < 8
    · obtain ⟨x, ex⟩ : ∃ x, x = wd ws t (j : Int) := ⟨_, rfl⟩
      have hT9 := HT.out.call hh.bel
      have hin : inT 4096 t j = true := by
        have h1 := HFR.out.1
        have h2 := HFR.out.2
        rw [HFF.out] at h2
        exact inT_iff.2 ⟨h1, by omega, by omega, by omega⟩
      have hwd := word_any hT9.ram t (j : Int)
      rw [← ex, show wdE 4096 x t j = unErr x by simp [wdE, hin]] at hwd
      have hsay := HGD.out.entry j hj8
      rw [← ex] at hsay
      have hok : unOK x = true := by
        cases e : unOK x
        · exfalso; apply hsay; unfold say sayB; rw [if_pos e]
        · rfl
      have he : unErr x = 0 := by simp [unErr, hok]
      rw [he] at hwd
      unfold unE at hwd
      obtain ⟨x0, -, -⟩ := hT9.cells
      have c4 : wr.cell? ⟨b4, 0, none⟩ = some (.pointer (some ⟨s.x, 0, none⟩)) := hh.r4.cell 0
      have hws : IntKind.i64.wrap ((j : Int) * 512) = (j : Int) * 512 := IntWalk.i64_in _ (by omega)
      have hwb : IntKind.i64.wrap (b + (j : Int) * 512) = b + (j : Int) * 512 := IntWalk.i64_in _ (by have := HB0.out; omega)
      have HH := Lib.hid hh
      have HX := Lib.hid ex
      have HSAY := Lib.hid hsay
      have HT9 := Lib.hid hT9
      obtain ⟨f, ef⟩ : ∃ f, f = unF x := ⟨_, rfl⟩
      obtain ⟨y0, ey0⟩ : ∃ y, y = unB x 0 := ⟨_, rfl⟩
      obtain ⟨y1, ey1⟩ : ∃ y, y = unB x 1 := ⟨_, rfl⟩
      obtain ⟨y7, ey7⟩ : ∃ y, y = unB x 7 := ⟨_, rfl⟩
      obtain ⟨y9, ey9⟩ : ∃ y, y = unB x 9 := ⟨_, rfl⟩
      obtain ⟨y5, ey5⟩ : ∃ y, y = unB x 5 := ⟨_, rfl⟩
      obtain ⟨y6, ey6⟩ : ∃ y, y = unB x 6 := ⟨_, rfl⟩
      rw [← ef, ← ey0, ← ey1, ← ey7, ← ey9, ← ey5, ← ey6] at hwd
      have hk := kinds hok
      rw [← ef, ← ey0, ← ey1, ← ey7, ← ey9, ← ey5, ← ey6] at hk
      have hsE : say (FF ws) ((3 : Nat) : Int) x = sayB 512 3 true f y0 y1 y7 y9 y5 y6 := by unfold say; rw [hok, HFF.out, ← ef, ← ey0, ← ey1, ← ey7, ← ey9, ← ey5, ← ey6]; rfl
      have HSE := Lib.hid hsE
      have HF := Lib.hid (And.intro ef (And.intro ey0 (And.intro ey1 (And.intro ey7 (And.intro ey9 (And.intro ey5 ey6))))))
      clear hh ex hsay hT9 hin he hok ef ey0 ey1 ey7 ey9 ey5 ey6 hsE
      rcases hk with ⟨rfl, rfl, rfl, rfl, rfl, rfl, rfl⟩ | ⟨rfl, rfl⟩ | ⟨rfl, rfl, rfl, rfl⟩
      · go_wp2_with fail
        refine hwd.mono ?_
        rintro e w2 ⟨rfl, hb2⟩
        have h2 := HH.out.call hb2
        obtain ⟨q, hq⟩ : ∃ q, q = w2.heap.size := ⟨_, rfl⟩
        obtain ⟨w3, hw3⟩ : ∃ w3, w3 = w2.alloc (.cells #[.int .i64 0, .bool false, .bool false, .bool false, .bool false, .bool false, .bool false] 28) := ⟨_, rfl⟩
        have h3 : ThT w w3 s b3 b4 b5 b6 bl (acc ++ upT ws 3 t j) := by rw [hw3]; exact h2.call (below_new w2 _ _)
        have e3 : Row w3 q 28 [.int .i64 0, .bool false, .bool false, .bool false, .bool false, .bool false, .bool false] := by rw [hw3, hq]; exact Row.new w2 _ _
        have HW3 := Lib.hid hw3
        have HQ := Lib.hid hq
        have H3 := Lib.hid h3
        obtain ⟨d0, d1, d2, d3, d4, d5, d6⟩ := e3.seven.1
        have c5 : w3.cell? ⟨b5, 0, none⟩ = some (.func (.func 55) #[] #[]) := h3.r5.cell 0
        have c6 : w3.cell? ⟨b6, 0, none⟩ = some (.func (.func 56) #[] #[.pointer (some ⟨b3, 0, none⟩), .pointer (some ⟨b4, 0, none⟩), .pointer (some ⟨b5, 0, none⟩), .pointer (some ⟨b6, 0, none⟩)]) := h3.r6.cell 0
        clear hwd hb2 h2 hw3 hq h3 e3 c4 x0
        go_upto_region 8 with (fail)
        rw [← HW3.out, ← HQ.out]
        go_wp2_with fail
        go_roundw
        case rel => exact ⟨j + 1, by omega, by go_num, by
          rw [upT_succ, ← HX.out, (show subt ws 3 x = [] by simp only [subt]; rw [if_neg (by rw [HSE.out]; simp [sayB, noB])]), List.append_nil]; exact H3.out⟩
        case measure => simp [intOf]; omega
      · cases y7
        · go_wp2_with fail
          refine hwd.mono ?_
          rintro e w2 ⟨rfl, hb2⟩
          have h2 := HH.out.call hb2
          obtain ⟨q, hq⟩ : ∃ q, q = w2.heap.size := ⟨_, rfl⟩
          obtain ⟨w3, hw3⟩ : ∃ w3, w3 = w2.alloc (.cells #[.int .i64 f, .bool true, .bool y1, .bool false, .bool false, .bool y5, .bool y6] 28) := ⟨_, rfl⟩
          have h3 : ThT w w3 s b3 b4 b5 b6 bl (acc ++ upT ws 3 t j) := by rw [hw3]; exact h2.call (below_new w2 _ _)
          have e3 : Row w3 q 28 [.int .i64 f, .bool true, .bool y1, .bool false, .bool false, .bool y5, .bool y6] := by rw [hw3, hq]; exact Row.new w2 _ _
          have HW3 := Lib.hid hw3
          have HQ := Lib.hid hq
          have H3 := Lib.hid h3
          obtain ⟨d0, d1, d2, d3, d4, d5, d6⟩ := e3.seven.1
          have c5 : w3.cell? ⟨b5, 0, none⟩ = some (.func (.func 55) #[] #[]) := h3.r5.cell 0
          have c6 : w3.cell? ⟨b6, 0, none⟩ = some (.func (.func 56) #[] #[.pointer (some ⟨b3, 0, none⟩), .pointer (some ⟨b4, 0, none⟩), .pointer (some ⟨b5, 0, none⟩), .pointer (some ⟨b6, 0, none⟩)]) := h3.r6.cell 0
          clear hwd hb2 h2 hw3 hq h3 e3 c4 x0
          go_upto_region 8 with (fail)
          rw [← HW3.out, ← HQ.out]
          have hs : say (FF ws) ((3 : Nat) : Int) x = 2 := by rw [HSE.out]; exact sayB_on (by rw [← HSE.out]; exact HSAY.out) (by simp [noB]) (by simp)
          have hgb := HGD.out.below j hj8 (by rw [← HX.out]; exact hs)
          rw [← HX.out, ← HF.out.1] at hgb
          have hlf := belowT2 HT.out H3.out f (b + (j : Int) * 512) hgb HLEN.out (by have := HB0.out; omega) (by have := HB0.out; omega) (by have h1 := upT_len3 ws t j; have h2 := HBD.out; simp only [List.length_append]; omega)
          have HS := Lib.hid hs
          clear hs hgb
          go_wp2_with fail
          refine hlf.mono ?_
          rintro e w4 ⟨rfl, h4⟩
          have H4 := Lib.hid h4
          clear hlf h4
          go_wp2_with fail
          go_roundw
          case rel => exact ⟨j + 1, by omega, by go_num, by
            rw [upT_succ, ← HX.out, (show subt ws 3 x = tabs ws 2 f by simp only [subt]; rw [if_pos HS.out, ← HF.out.1]), ← List.append_assoc]; exact H4.out⟩
          case measure => simp [intOf]; omega
        · exact absurd (HSE.out.trans (by simp [sayB])) HSAY.out
      · exact absurd (HSE.out.trans (by simp [sayB])) HSAY.out
    · obtain rfl : j = 8 := by omega
      have H9 := Lib.hid hh
      clear hh
      go_wp2_with fail
      go_end0
      exact ⟨rfl, by have := H9.out; rwa [upT_all] at this⟩
end
end Go.Proofs.Ytpcpcgbejinlmaa
/- All that a root has: through, Leaves, tables, Count. -/
namespace Go.Proofs.Ytpcpcgbejinlmaa
open Go.RowKit
open Sem
@[go_sem] theorem store_func {P : Program} {w : World} (a : Addr) (m : Mode) (f : Fn) (t c : Array Value) : (store a (.func f t c) m).run P w = stored P w a (.func f t c) m := run_store P w a _ m rfl
def thL (ws R : List Int) (r : Int) : List Mp := if r ∈ R then (lvs ws 3 r 0).map mpOf else []
def thT (ws R : List Int) (r : Int) : List Int := if r ∈ R then tabs ws 3 r else []
section
variable {w W : World} {s : Seat} {v : Value} {ws L R : List Int} {bl : Nat}
set_option maxRecDepth 100000 in
set_option maxHeartbeats 800000 in
theorem throughL (hT : Tab w s v ws L R) (hb : Below w.heap.size w W) (hlo : w.heap.size ≤ bl) (hbl : Row W bl 53 [.slice none 0 0]) (r : Int) (hr : Fits r) (hg : r ∈ R → Good ws 3 r) (hlen : ws.length = 4096) :
    Calls Try.prog 33 #[.pointer (some ⟨s.x, 0, none⟩), .int .i64 r, .func (.func 34) #[] #[], .func (.func 35) #[] #[.pointer (some ⟨bl, 0, none⟩)]] W fun e W' => e = .returned (.tuple #[]) ∧ Below w.heap.size w W' ∧ ∃ vl, Row W' bl 53 [vl] ∧ Ms W' w.heap.size vl (thL ws R r) := by
  obtain ⟨q, hq⟩ : ∃ q, q = W.heap.size := ⟨_, rfl⟩
  obtain ⟨W1, hW1⟩ : ∃ W1, W1 = W.alloc (.cells #[.pointer (some ⟨s.x, 0, none⟩)] 34) := ⟨_, rfl⟩
  obtain ⟨W2, hW2⟩ : ∃ W2, W2 = W1.alloc (.cells #[.func (.func 34) #[] #[]] 92) := ⟨_, rfl⟩
  obtain ⟨W3, hW3⟩ : ∃ W3, W3 = W2.alloc (.cells #[.func (.func 35) #[] #[.pointer (some ⟨bl, 0, none⟩)]] 95) := ⟨_, rfl⟩
  have s1 : W1.heap.size = q + 1 := by rw [hW1, hq]; simp
  have s2 : W2.heap.size = q + 1 + 1 := by rw [hW2, World.size_alloc, s1]
  have b1 : Below W.heap.size W W1 := hW1 ▸ below_new W _ _
  have b2 : Below W1.heap.size W1 W2 := hW2 ▸ below_new W1 _ _
  have b3 : Below W2.heap.size W2 W3 := hW3 ▸ below_new W2 _ _
  have r4 : Row W1 q 34 [.pointer (some ⟨s.x, 0, none⟩)] := by rw [hW1, hq]; exact Row.new W _ _
  have r3 : Row W2 (q + 1) 92 [.func (.func 34) #[] #[]] := by rw [hW2, ← s1]; exact Row.new W1 _ _
  have r5 : Row W3 (q + 1 + 1) 95 [.func (.func 35) #[] #[.pointer (some ⟨bl, 0, none⟩)]] := by rw [hW3, ← s2]; exact Row.new W2 _ _
  have b13 : Below W.heap.size W W3 := (b1.trans (b2.mono b1.size)).trans (b3.mono (b1.trans (b2.mono b1.size)).size)
  have r43 : Row W3 q 34 [.pointer (some ⟨s.x, 0, none⟩)] := (r4.below b2 r4.lt).below b3 (r4.below b2 r4.lt).lt
  have r33 : Row W3 (q + 1) 92 [.func (.func 34) #[] #[]] := r3.below b3 r3.lt
  have hbl3 := hbl.below b13 hbl.lt
  have hB3 := hb.trans (b13.mono hb.size)
  have hck := checkRoot_any (hT.call hB3) r hr
  have e4 : W3.cell? ⟨q, 0, none⟩ = some (.pointer (some ⟨s.x, 0, none⟩)) := r43.cell 0
  have HT := Lib.hid hT
  have HQ := Lib.hid hq
  have HW1 := Lib.hid hW1
  have HW2 := Lib.hid hW2
  have HW3 := Lib.hid hW3
  have HS1 := Lib.hid s1
  have HS2 := Lib.hid s2
  have HR3 := Lib.hid r33
  have HR4 := Lib.hid r43
  have HR5 := Lib.hid r5
  have HBL := Lib.hid hbl3
  have HB3 := Lib.hid hB3
  have HLO := Lib.hid hlo
  have HG := Lib.hid hg
  have HLEN := Lib.hid hlen
  clear hT hq hW1 hW2 hW3 s1 s2 b1 b2 b3 r4 r3 r5 b13 r43 r33 hbl3 hB3 hlo hg hlen hb hbl
  by_cases hin : r ∈ R
  · rw [show rtE R r = 0 from if_pos hin] at hck
    rw [show thL ws R r = (lvs ws 3 r 0).map mpOf from if_pos hin]
    have HIN := Lib.hid hin
    clear hin
    go_enter Try.func33, Try.ntmps33
    go_upto_region 1 with (fail)
    rw [← HW1.out, ← HW2.out, ← HW3.out, ← HQ.out]
    go_wp2_with fail
    refine hck.mono ?_
    rintro e W4 ⟨rfl, hb4⟩
    obtain ⟨b6, hb6⟩ : ∃ b6, b6 = W4.heap.size := ⟨_, rfl⟩
    obtain ⟨W4b, hW4b⟩ : ∃ W4b, W4b = W4.alloc (.cells #[.nilFunc] 116) := ⟨_, rfl⟩
    obtain ⟨W5, hW5⟩ : ∃ W5, W5 = W4b.setCell ⟨b6, 0, none⟩ (.func (.func 56) #[] #[.pointer (some ⟨q + 1, 0, none⟩), .pointer (some ⟨q, 0, none⟩), .pointer (some ⟨q + 1 + 1, 0, none⟩), .pointer (some ⟨b6, 0, none⟩)]) := ⟨_, rfl⟩
    have b4b : Below W4.heap.size W4 W4b := hW4b ▸ below_new W4 _ _
    have r4b : Row W4b b6 116 [.nilFunc] := by rw [hW4b, hb6]; exact Row.new W4 _ _
    have b5 : Below W4.heap.size W4 W5 := by rw [hW5]; exact b4b.setCell (p := ⟨b6, 0, none⟩) (show W4.heap.size ≤ b6 by omega) _
    have b35 : Below W3.heap.size W3 W5 := hb4.trans (b5.mono hb4.size)
    have r6 : Row W5 b6 116 [.func (.func 56) #[] #[.pointer (some ⟨q + 1, 0, none⟩), .pointer (some ⟨q, 0, none⟩), .pointer (some ⟨q + 1 + 1, 0, none⟩), .pointer (some ⟨b6, 0, none⟩)]] := by rw [hW5]; exact r4b.set_ 0 _
    have f4 : W4b.frozen? ⟨b6, 0, none⟩ = false := r4b.frozen 0
    have z4 : W4b.cell? ⟨b6, 0, none⟩ = some .nilFunc := r4b.cell 0
    have HW4B := Lib.hid hW4b
    have e6 := r6.cell 0
    have hth : ThL w W5 s (q + 1) q (q + 1 + 1) b6 bl [] := ⟨HB3.out.trans (b35.mono HB3.out.size), HR3.out.below b35 HR3.out.lt, HR4.out.below b35 HR4.out.lt, HR5.out.below b35 HR5.out.lt, r6, HLO.out, _, HBL.out.below b35 HBL.out.lt, Ms.nil _ _⟩
    have hbe := belowL3 HT.out hth r 0 (HG.out HIN.out) HLEN.out (by omega) (by omega) (by simp)
    rw [List.nil_append] at hbe
    have HB6 := Lib.hid hb6
    have HW5 := Lib.hid hW5
    clear hb6 hW5 hW4b b4b r4b b5 b35 r6 hth hb4 hck e4
    go_upto_region 3 with (fail)
    rw [← HB6.out, ← HW4B.out]
    go_upto_region 4 with (fail)
    rw [← HW5.out]
    go_wp2_with fail
    refine hbe.mono ?_
    rintro e W6 ⟨rfl, h6⟩
    have H6 := Lib.hid h6
    clear hbe h6
    go_wp2_with fail
    go_end0
    exact ⟨rfl, H6.out.bel, H6.out.acc⟩
  · rw [show rtE R r = 3 from if_neg hin] at hck
    rw [show thL ws R r = [] from if_neg hin]
    clear hin
    go_enter Try.func33, Try.ntmps33
    go_upto_region 1 with (fail)
    rw [← HW1.out, ← HW2.out, ← HW3.out, ← HQ.out]
    go_wp2_with fail
    refine hck.mono ?_
    rintro e W4 ⟨rfl, hb4⟩
    have HB4 := Lib.hid hb4
    clear hck e4 hb4
    go_wp2_with fail
    (try simp only [Exit.inBlock, Exit.then])
    refine bodyPost_ret (results_none rfl _ _ _) rfl ?_
    exact ⟨rfl, HB3.out.trans (HB4.out.mono HB3.out.size), _, HBL.out.below HB4.out HBL.out.lt, Ms.nil _ _⟩
set_option maxRecDepth 100000 in
set_option maxHeartbeats 800000 in
theorem leaves_any (h : Tab w s v ws L R) (r : Int) (hr : Fits r) (hg : r ∈ R → Good ws 3 r) (hlen : ws.length = 4096) :
    Calls Try.prog 14 #[.pointer (some ⟨s.x, 0, none⟩), .int .i64 r] w fun e w' => ∃ A c, e = .returned (.slice A (thL ws R r).length c) ∧ Ms w' w.heap.size (.slice A (thL ws R r).length c) (thL ws R r) ∧ Below w.heap.size w w' := by
  obtain ⟨bl, hbl⟩ : ∃ bl, bl = w.heap.size := ⟨_, rfl⟩
  obtain ⟨W, hW⟩ : ∃ W, W = w.alloc (.cells #[.slice none 0 0] 53) := ⟨_, rfl⟩
  have b1 : Below w.heap.size w W := hW ▸ below_new w _ _
  have r1 : Row W bl 53 [.slice none 0 0] := by rw [hW, hbl]; exact Row.new w _ _
  have hth := throughL h b1 (by omega) r1 r hr hg hlen
  have HW := Lib.hid hW
  have HBL := Lib.hid hbl
  clear h b1 r1 hg hlen hW hbl
  go_enter Try.func14, Try.ntmps14
  go_upto_region 2 with (fail)
  rw [← HW.out, ← HBL.out]
  go_wp2_with fail
  refine hth.mono ?_
  rintro e W' ⟨rfl, hb, vl, hrow, hown⟩
  obtain ⟨A, c, rfl⟩ := hown.form
  have c0 := hrow.cell 0
  have HO := Lib.hid hown
  have HB := Lib.hid hb
  clear hth hb hrow hown
  go_wp2_with fail
  go_ret
  exact ⟨A, c, rfl, HO.out, HB.out⟩
end
section
variable {w W : World} {s : Seat} {v : Value} {ws L R : List Int} {bl : Nat}
set_option maxRecDepth 100000 in
set_option maxHeartbeats 800000 in
theorem throughT (hT : Tab w s v ws L R) (hb : Below w.heap.size w W) (hlo : w.heap.size ≤ bl) (hbl : Row W bl 44 [.slice none 0 0]) (r : Int) (hr : Fits r) (hg : r ∈ R → Good ws 3 r) (hlen : ws.length = 4096) :
    Calls Try.prog 33 #[.pointer (some ⟨s.x, 0, none⟩), .int .i64 r, .func (.func 54) #[] #[.pointer (some ⟨bl, 0, none⟩)], .func (.func 55) #[] #[]] W fun e W' => e = .returned (.tuple #[]) ∧ Below w.heap.size w W' ∧ ∃ vl, Row W' bl 44 [vl] ∧ W'.ownsRow w.heap.size 3 1 vl ((thT ws R r)).length (((thT ws R r)).map (Value.int .i64)) := by
  obtain ⟨q, hq⟩ : ∃ q, q = W.heap.size := ⟨_, rfl⟩
  obtain ⟨W1, hW1⟩ : ∃ W1, W1 = W.alloc (.cells #[.pointer (some ⟨s.x, 0, none⟩)] 34) := ⟨_, rfl⟩
  obtain ⟨W2, hW2⟩ : ∃ W2, W2 = W1.alloc (.cells #[.func (.func 54) #[] #[.pointer (some ⟨bl, 0, none⟩)]] 92) := ⟨_, rfl⟩
  obtain ⟨W3, hW3⟩ : ∃ W3, W3 = W2.alloc (.cells #[.func (.func 55) #[] #[]] 95) := ⟨_, rfl⟩
  have s1 : W1.heap.size = q + 1 := by rw [hW1, hq]; simp
  have s2 : W2.heap.size = q + 1 + 1 := by rw [hW2, World.size_alloc, s1]
  have b1 : Below W.heap.size W W1 := hW1 ▸ below_new W _ _
  have b2 : Below W1.heap.size W1 W2 := hW2 ▸ below_new W1 _ _
  have b3 : Below W2.heap.size W2 W3 := hW3 ▸ below_new W2 _ _
  have r4 : Row W1 q 34 [.pointer (some ⟨s.x, 0, none⟩)] := by rw [hW1, hq]; exact Row.new W _ _
  have r3 : Row W2 (q + 1) 92 [.func (.func 54) #[] #[.pointer (some ⟨bl, 0, none⟩)]] := by rw [hW2, ← s1]; exact Row.new W1 _ _
  have r5 : Row W3 (q + 1 + 1) 95 [.func (.func 55) #[] #[]] := by rw [hW3, ← s2]; exact Row.new W2 _ _
  have b13 : Below W.heap.size W W3 := (b1.trans (b2.mono b1.size)).trans (b3.mono (b1.trans (b2.mono b1.size)).size)
  have r43 : Row W3 q 34 [.pointer (some ⟨s.x, 0, none⟩)] := (r4.below b2 r4.lt).below b3 (r4.below b2 r4.lt).lt
  have r33 : Row W3 (q + 1) 92 [.func (.func 54) #[] #[.pointer (some ⟨bl, 0, none⟩)]] := r3.below b3 r3.lt
  have hbl3 := hbl.below b13 hbl.lt
  have hB3 := hb.trans (b13.mono hb.size)
  have hck := checkRoot_any (hT.call hB3) r hr
  have e4 : W3.cell? ⟨q, 0, none⟩ = some (.pointer (some ⟨s.x, 0, none⟩)) := r43.cell 0
  have HT := Lib.hid hT
  have HQ := Lib.hid hq
  have HW1 := Lib.hid hW1
  have HW2 := Lib.hid hW2
  have HW3 := Lib.hid hW3
  have HS1 := Lib.hid s1
  have HS2 := Lib.hid s2
  have HR3 := Lib.hid r33
  have HR4 := Lib.hid r43
  have HR5 := Lib.hid r5
  have HBL := Lib.hid hbl3
  have HB3 := Lib.hid hB3
  have HLO := Lib.hid hlo
  have HG := Lib.hid hg
  have HLEN := Lib.hid hlen
  clear hT hq hW1 hW2 hW3 s1 s2 b1 b2 b3 r4 r3 r5 b13 r43 r33 hbl3 hB3 hlo hg hlen hb hbl
  by_cases hin : r ∈ R
  · rw [show rtE R r = 0 from if_pos hin] at hck
    rw [show thT ws R r = tabs ws 3 r from if_pos hin]
    have HIN := Lib.hid hin
    clear hin
    go_enter Try.func33, Try.ntmps33
    go_upto_region 1 with (fail)
    rw [← HW1.out, ← HW2.out, ← HW3.out, ← HQ.out]
    go_wp2_with fail
    refine hck.mono ?_
    rintro e W4 ⟨rfl, hb4⟩
    obtain ⟨b6, hb6⟩ : ∃ b6, b6 = W4.heap.size := ⟨_, rfl⟩
    obtain ⟨W4b, hW4b⟩ : ∃ W4b, W4b = W4.alloc (.cells #[.nilFunc] 116) := ⟨_, rfl⟩
    obtain ⟨W5, hW5⟩ : ∃ W5, W5 = W4b.setCell ⟨b6, 0, none⟩ (.func (.func 56) #[] #[.pointer (some ⟨q + 1, 0, none⟩), .pointer (some ⟨q, 0, none⟩), .pointer (some ⟨q + 1 + 1, 0, none⟩), .pointer (some ⟨b6, 0, none⟩)]) := ⟨_, rfl⟩
    have b4b : Below W4.heap.size W4 W4b := hW4b ▸ below_new W4 _ _
    have r4b : Row W4b b6 116 [.nilFunc] := by rw [hW4b, hb6]; exact Row.new W4 _ _
    have b5 : Below W4.heap.size W4 W5 := by rw [hW5]; exact b4b.setCell (p := ⟨b6, 0, none⟩) (show W4.heap.size ≤ b6 by omega) _
    have b35 : Below W3.heap.size W3 W5 := hb4.trans (b5.mono hb4.size)
    have r6 : Row W5 b6 116 [.func (.func 56) #[] #[.pointer (some ⟨q + 1, 0, none⟩), .pointer (some ⟨q, 0, none⟩), .pointer (some ⟨q + 1 + 1, 0, none⟩), .pointer (some ⟨b6, 0, none⟩)]] := by rw [hW5]; exact r4b.set_ 0 _
    have f4 : W4b.frozen? ⟨b6, 0, none⟩ = false := r4b.frozen 0
    have z4 : W4b.cell? ⟨b6, 0, none⟩ = some .nilFunc := r4b.cell 0
    have HW4B := Lib.hid hW4b
    have e6 := r6.cell 0
    have hth : ThT w W5 s (q + 1) q (q + 1 + 1) b6 bl [] := ⟨HB3.out.trans (b35.mono HB3.out.size), HR3.out.below b35 HR3.out.lt, HR4.out.below b35 HR4.out.lt, HR5.out.below b35 HR5.out.lt, r6, HLO.out, _, HBL.out.below b35 HBL.out.lt, World.ownsRow_nil _ _ _ _⟩
    have hbe := belowT3 HT.out hth r 0 (HG.out HIN.out) HLEN.out (by omega) (by omega) (by simp)
    rw [List.nil_append] at hbe
    have HB6 := Lib.hid hb6
    have HW5 := Lib.hid hW5
    clear hb6 hW5 hW4b b4b r4b b5 b35 r6 hth hb4 hck e4
    go_upto_region 3 with (fail)
    rw [← HB6.out, ← HW4B.out]
    go_upto_region 4 with (fail)
    rw [← HW5.out]
    go_wp2_with fail
    refine hbe.mono ?_
    rintro e W6 ⟨rfl, h6⟩
    have H6 := Lib.hid h6
    clear hbe h6
    go_wp2_with fail
    go_end0
    exact ⟨rfl, H6.out.bel, H6.out.acc⟩
  · rw [show rtE R r = 3 from if_neg hin] at hck
    rw [show thT ws R r = [] from if_neg hin]
    clear hin
    go_enter Try.func33, Try.ntmps33
    go_upto_region 1 with (fail)
    rw [← HW1.out, ← HW2.out, ← HW3.out, ← HQ.out]
    go_wp2_with fail
    refine hck.mono ?_
    rintro e W4 ⟨rfl, hb4⟩
    have HB4 := Lib.hid hb4
    clear hck e4 hb4
    go_wp2_with fail
    (try simp only [Exit.inBlock, Exit.then])
    refine bodyPost_ret (results_none rfl _ _ _) rfl ?_
    exact ⟨rfl, HB3.out.trans (HB4.out.mono HB3.out.size), _, HBL.out.below HB4.out HBL.out.lt, World.ownsRow_nil _ _ _ _⟩
set_option maxRecDepth 100000 in
set_option maxHeartbeats 800000 in
theorem tabs_any (h : Tab w s v ws L R) (r : Int) (hr : Fits r) (hg : r ∈ R → Good ws 3 r) (hlen : ws.length = 4096) :
    Calls Try.prog 32 #[.pointer (some ⟨s.x, 0, none⟩), .int .i64 r] w fun e w' => ∃ A c, e = .returned (.slice A (thT ws R r).length c) ∧ w'.ownsRow w.heap.size 3 1 (.slice A (thT ws R r).length c) ((thT ws R r)).length (((thT ws R r)).map (Value.int .i64)) ∧ Below w.heap.size w w' := by
  obtain ⟨bl, hbl⟩ : ∃ bl, bl = w.heap.size := ⟨_, rfl⟩
  obtain ⟨W, hW⟩ : ∃ W, W = w.alloc (.cells #[.slice none 0 0] 44) := ⟨_, rfl⟩
  have b1 : Below w.heap.size w W := hW ▸ below_new w _ _
  have r1 : Row W bl 44 [.slice none 0 0] := by rw [hW, hbl]; exact Row.new w _ _
  have hth := throughT h b1 (by omega) r1 r hr hg hlen
  have HW := Lib.hid hW
  have HBL := Lib.hid hbl
  clear h b1 r1 hg hlen hW hbl
  go_enter Try.func32, Try.ntmps32
  go_upto_region 2 with (fail)
  rw [← HW.out, ← HBL.out]
  go_wp2_with fail
  refine hth.mono ?_
  rintro e W' ⟨rfl, hb, vl, hrow, hown⟩
  obtain ⟨A, c, rfl⟩ := own_form hown
  have c0 := hrow.cell 0
  have HO := Lib.hid hown
  have HB := Lib.hid hb
  clear hth hb hrow hown
  go_wp2_with fail
  go_ret
  exact ⟨A, c, rfl, HO.out, HB.out⟩
end
section
variable {w : World} {s : Seat} {v : Value} {ws L R : List Int}
set_option maxRecDepth 100000 in
theorem count_any (h : Tab w s v ws L R) (r : Int) (hr : Fits r) (hg : r ∈ R → Good ws 3 r) (hlen : ws.length = 4096) :
    Calls Try.prog 13 #[.pointer (some ⟨s.x, 0, none⟩), .int .i64 r] w fun e w' => e = .returned (.int .i64 (thT ws R r).length) ∧ Below w.heap.size w w' := by
  have ht := tabs_any h r hr hg hlen
  clear h hg hlen
  go_enter Try.func13, Try.ntmps13
  go_wp2_with fail
  refine ht.mono ?_
  rintro e w1 ⟨A, c, rfl, -, hb⟩
  have HB := Lib.hid hb
  clear ht hb
  go_wp2_with fail
  go_ret
  exact ⟨rfl, HB.out⟩
end
end Go.Proofs.Ytpcpcgbejinlmaa
