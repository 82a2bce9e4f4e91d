/- The reference: Flush, Look, Same. -/
import Derived.Test.YtbnnfgdlkldafaaAj
import Derived.Test.YtbnnfgdlkldafaaAh
import Derived.BigQuiet
namespace Go.Proofs.Ytbnnfgdlkldafaa
open Go.RowKit
/-- The reference's buffer: its struct in block xa, its lines in a row. -/
structure Rb (B : Nat) (w : World) (xa z : Nat) (v : Value) (L : List Cd) : Prop where
  top : Lrow w xa 38 [.int .i64 z, v]
  own : Cs w B v L
  lo : B ≤ xa
  lw : B ≤ w.heap.size
def DidR (B : Nat) (w : World) (xa z : Nat) (v : Value) (L' : List Cd) (r : Value) (e : Ending) (w' : World) : Prop :=
  e = .returned r ∧ ∃ v', Rb B w' xa z v' L' ∧ Foot (fun k => k = xa) w w' ∧ (v' = v ∨ ∀ g, v'.ownBlock = some g → w.heap.size ≤ g)
section
variable {w w' : World} {B xa z : Nat} {v : Value} {L : List Cd}
theorem Rb.keep (h : Rb B w xa z v L) (hs : w.heap.size ≤ w'.heap.size) (hk : ∀ k, (k = xa ∨ v.ownBlock = some k) → k < w.heap.size → w'.heap[k]? = w.heap[k]?) : Rb B w' xa z v L :=
  ⟨(hk xa (Or.inl rfl) h.top.lt).trans h.top, h.own.heap (fun g e => hk g (Or.inr e) (by obtain ⟨vs, r, _⟩ := own_block h.own e; exact r.lt)), h.lo, Nat.le_trans h.lw hs⟩
theorem Rb.call (h : Rb B w xa z v L) (hb : Below w.heap.size w w') : Rb B w' xa z v L := h.keep hb.size fun k _ hl => hb.block k hl
theorem Rb.drewN (h : Rb B w xa z v L) (k : Nat) : Rb B (w.drewN k) xa z v L := h.call (below_dN (Below.refl _ _) k)
theorem Rb.c0 (h : Rb B w xa z v L) : w.cell? ⟨xa, 0, none⟩ = some (.int .i64 z) := h.top.cell 0
theorem Rb.c1 (h : Rb B w xa z v L) : w.cell? ⟨xa, 1, none⟩ = some v := h.top.cell 1
/-- The lines are laid anew. -/
theorem Rb.set (h : Rb B w xa z v L) (hb : Below w.heap.size w w') {v' : Value} {L' : List Cd} (ho : Cs w' w.heap.size v' L') {r : Value} : DidR B w xa z v L' r (.returned r) (w'.setCell ⟨xa, 1, none⟩ v') := by
  have ht := h.top.call hb
  refine ⟨rfl, v', ⟨ht.set_ 1 v', ?_, h.lo, by simpa [World.setCell] using Nat.le_trans h.lw hb.size⟩, ?_, Or.inr fun g e => ?_⟩
  · refine (ho.base h.lw).heap fun g e => ?_
    obtain ⟨vs, r, _⟩ := own_block ho e
    exact Below.heap_setCell w' _ _ g (r.apart ht (by decide))
  · exact (Foot.of_below (X := fun k => k = xa) hb).trans (Foot.grown (X := fun k => k = xa) (grown_set w' xa 1 _) rfl) (fun _ h _ => h)
  · obtain ⟨vs, _, r⟩ := own_block ho e
    exact r
theorem flL_snoc (L : List Cd) (s p n : Int) {k : Nat} (h : k < L.length) : flL (L.take (k + 1)) s p n = if metB L[k] s p n = true then flL (L.take k) s p n else flL (L.take k) s p n ++ [L[k]] := by
  unfold flL
  rw [List.take_succ_eq_append_getElem h, List.filter_append, List.filter_cons]
  cases metB L[k] s p n <;> simp
set_option maxHeartbeats 4000000 in
set_option maxRecDepth 100000 in
theorem refFlush_any (h : Rb B w xa z v L) (hok : ∀ c ∈ L, ROk c) (hL : L.length ≤ 64) (sp : Int) {q n : Int} (hq : Fits q) (hn : Fits n) : Calls Try.prog 18 #[.pointer (some ⟨xa, 0, none⟩), .int .i64 sp, .int .i64 q, .int .i64 n] w (DidR B w xa z v (flL L sp q n) (.int .i64 (flN L sp q n))) := by
  by_cases hn1 : n < 1
  · have HD : Hid (DidR B w xa z v (flL L sp q n) (.int .i64 (flN L sp q n)) (.returned (.int .i64 0)) w) := by
      refine ⟨by rw [flL_none' L sp q hn1], v, ?_, Foot.refl _ _, Or.inl rfl⟩
      rw [flL_none L sp q hn1]; exact h
    clear h hq hn
    go_enter Try.func18, Try.ntmps18
    go_wp2
    go_ret
    exact HD.out
  · have h1 : 1 ≤ n := by omega
    obtain ⟨A, c, rfl⟩ := h.own.form
    obtain ⟨N, hN⟩ : ∃ N, N = L.length := ⟨_, rfl⟩
    have HH := Lib.hid h
    have HOK := Lib.hid hok
    have HME := Lib.hid (fun (c : Cd) (hc : ROk c) w => meets_any hc sp hq hn h1 w)
    have hc1 := h.c1
    have hxl := h.top.lt
    rw [← hN] at hc1
    have HN := Lib.hid hN
    have n64 : (N : Int) ≤ 64 := by omega
    clear h hq hn hok
    go_enter Try.func18, Try.ntmps18
    go_wp2
    go_loopw [9, 10] (fun r i wr => ∃ (j : Nat), j ≤ N ∧ i = .int .i64 j ∧ Cs wr w.heap.size r (flL (L.take j) sp q n) ∧ Below w.heap.size w wr) (fun _ i _ => N - (intOf i).toNat)
    case atStart => exact ⟨0, Nat.zero_le _, rfl, by simpa [flL] using Cs.nil w _, Below.refl _ _⟩
    case round =>
      obtain ⟨j, hj, rfl, hcs, hb⟩ := hrel
      obtain ⟨Ar, cr, rfl⟩ := hcs.form
      have hcw : wr.cell? ⟨xa, 1, none⟩ = some (.slice A N c) := (hb.cell (p := ⟨xa, 1, none⟩) hxl).trans hc1
      by_cases hlt : j < N
      · have hjl : j < L.length := by have := HN.out; omega
        obtain ⟨g, rfl, hgl, -, hat⟩ := HH.out.own.at_ j hjl
        obtain ⟨x, ex⟩ : ∃ x, x = L[j] := ⟨_, rfl⟩
        have hxo : ROk x := ex ▸ HOK.out _ (List.getElem_mem _)
        have hfs := flL_snoc L sp q n hjl
        rw [← ex] at hat hfs
        have hatw := hat.heap (w' := wr) (hb.block g hgl)
        have hme := fun w => HME.out x hxo w
        have hrl : (flL (L.take j) sp q n).length ≤ 64 := by
          have := flL_len (L.take j) sp q n
          rw [List.length_take] at this
          omega
        obtain ⟨R, hR⟩ : ∃ R, R = flL (L.take j) sp q n := ⟨_, rfl⟩
        rw [← hR] at hcs hfs hrl ⊢
        obtain ⟨m, hm⟩ : ∃ m, m = R.length := ⟨_, rfl⟩
        rw [← hm] at hcs ⊢
        have e0 := hatw.c0
        have e1 := hatw.c1
        have e2 := hatw.c2
        have e3 := hatw.c3
        have e4 := hatw.c4
        dsimp only at e0 e1 e2 e3 e4
        have HCS := Lib.hid hcs
        have HB := Lib.hid hb
        have HFS := Lib.hid hfs
        have HR := Lib.hid hR
        have HM := Lib.hid hm
        have jN : (j : Int) < N := by omega
        have j0 : (0 : Int) ≤ j := by omega
        have HGL := Lib.hid hgl
        clear hcs hb hfs hR hm hat hatw hj hjl hxo ex hrl hgl
        obtain ⟨xs, xp, xo, xf, xw⟩ := x
        dsimp only at e0 e1 e2 e3 e4
        go_wp2_with fail
        refine (hme _).mono ?_
        rintro e W2 ⟨rfl, hb2⟩
        have HB2 := Lib.hid (HB.out.trans (hb2.mono HB.out.size))
        cases hmt : metB ⟨xs, xp, xo, xf, xw⟩ sp q n
        · have hcs2 := HCS.out.call hb2
          have hl2 := hb2.size
          have hg2 : W2.heap[g]? = wr.heap[g]? := hb2.block g (by have := HGL.out; have := HB.out.size; omega)
          have hcw2 : W2.cell? ⟨xa, 1, none⟩ = some (.slice (some ⟨g, 0, none⟩) N c) := (hb2.cell (p := ⟨xa, 1, none⟩) (by have := HB.out.size; show xa < _; omega)).trans hcw
          have k0 := (World.cell?_of_block (a := ⟨g, j * 5, none⟩) hg2).trans e0
          have k1 := (World.cell?_of_block (a := ⟨g, j * 5 + 1, none⟩) hg2).trans e1
          have k2 := (World.cell?_of_block (a := ⟨g, j * 5 + 2, none⟩) hg2).trans e2
          have k3 := (World.cell?_of_block (a := ⟨g, j * 5 + 3, none⟩) hg2).trans e3
          have k4 := (World.cell?_of_block (a := ⟨g, j * 5 + 4, none⟩) hg2).trans e4
          have hbn := below_new W2 (.cells (ccell ⟨xs, xp, xo, xf, xw⟩).toArray 31)
          have hrn : Lrow (W2.alloc (.cells (ccell ⟨xs, xp, xo, xf, xw⟩).toArray 31)) W2.heap.size 31 (ccell ⟨xs, xp, xo, xf, xw⟩) := Lrow.new W2 _ _
          rw [HM.out] at hcs2
          obtain ⟨A5, c5, W5, r5, o5, g5, -⟩ := app_run (hcs2.call hbn) (by have := HB2.out.size; have := hbn.size; omega) ⟨W2.heap.size, 0, none⟩ 1 [⟨xs, xp, xo, xf, xw⟩] (fun j u hu => by rw [add_offs, hrn.cell]; rw [ccells_one] at hu; exact hu) (by have := HM.out; simp only [List.length_cons, List.length_nil]; have := HR.out; have := flL_len (L.take j) sp q n; rw [← HR.out, List.length_take] at this; omega)
          simp only [List.length_cons, List.length_nil, Nat.zero_add, ← HM.out] at r5 o5
          have hfs2 := HFS.out
          rw [hmt] at hfs2
          have HO5 : Hid (Cs W5 w.heap.size (.slice A5 (m + 1) c5) (flL (L.take (j + 1)) sp q n)) := by show Cs _ _ _ _; rw [hfs2]; exact o5
          have HB5 : Hid (Below w.heap.size w W5) := (HB2.out.trans (hbn.mono HB2.out.size)).grown g5 (by have := HB2.out.size; have := hbn.size; omega) (fun k e => by
            obtain ⟨vs, _, r⟩ := own_block hcs2 e
            exact r)
          have hnx : ¬ xa = W2.heap.size := by have := HB.out.size; omega
          have hng : ¬ g = W2.heap.size := by have := HGL.out; have := HB2.out.size; omega
          clear hb2 hcs2 hg2 hbn hrn o5 g5 hfs2 hl2
          dsimp only [ccell] at r5
          go_wp2_with (at_builtin; refine wpList_append_run rfl _ _ 35 rfl (.slice Ar m cr) (.slice (some ⟨W2.heap.size, 0, none⟩) 1 1) rfl rfl r5 ?_)
          go_roundw
          case rel => exact ⟨j + 1, by omega, by go_num, HO5.out, HB5.out⟩
          case measure => simp [intOf]; omega
        · have hfs2 := HFS.out
          rw [hmt] at hfs2
          have HO5 : Hid (Cs W2 w.heap.size (.slice Ar m cr) (flL (L.take (j + 1)) sp q n)) := by show Cs _ _ _ _; rw [hfs2]; exact HCS.out.call hb2
          clear hfs2 hb2
          go_wp2_with fail
          go_roundw
          case rel => exact ⟨j + 1, by omega, by go_num, HO5.out, HB2.out⟩
          case measure => simp [intOf]; omega
      · have hjN : j = N := by omega
        subst hjN
        have hdone := HH.out.set hb (r := .int .i64 (flN L sp q n)) hcs
        rw [HN.out, List.take_length] at hdone
        rw [HN.out, List.take_length] at hcs
        have eF : (L.length : Int) - (flL L sp q n).length = flN L sp q n := rfl
        have hfl := flL_len L sp q n
        rw [← HN.out] at hfl
        rw [HN.out, List.take_length]
        obtain ⟨m, hm⟩ : ∃ m, m = (flL L sp q n).length := ⟨_, rfl⟩
        rw [← hm] at hdone eF hfl ⊢
        have ht := HH.out.top.call hb
        have hfz : wr.frozen? ⟨xa, 1, none⟩ = false := ht.frozen 1
        have hw1 : IntKind.i64.wrap ((j : Int) - m) = (j : Int) - m := IntWalk.i64_in _ (by omega)
        have HD := Lib.hid hdone
        have EF := Lib.hid eF
        rw [← HN.out]
        clear hdone eF hcs hb hm ht
        go_wp2_with fail
        go_ret
        change DidR _ _ _ _ _ _ _ (Ending.returned (.int .i64 ((L.length : Int) - m))) _
        rw [EF.out]
        exact HD.out
theorem find_take {L : List Cd} {f : Cd → Bool} {j : Nat} (h : ∀ i (hi : i < L.length), i < j → f L[i] = false) : L.find? f = (L.drop j).find? f := by
  induction j with
  | zero => rfl
  | succ j ih =>
    rw [ih (fun i hi hij => h i hi (by omega))]
    by_cases hj : j < L.length
    · rw [List.drop_eq_getElem_cons hj, List.find?_cons, h j hj (by omega)]
    · rw [List.drop_of_length_le (by omega), List.drop_of_length_le (by omega)]
theorem find_at {L : List Cd} {f : Cd → Bool} {j : Nat} (hj : j < L.length) (h : ∀ i (hi : i < L.length), i < j → f L[i] = false) (hf : f L[j] = true) : L.find? f = some L[j] := by
  rw [find_take h, List.drop_eq_getElem_cons hj, List.find?_cons, hf]
theorem lkR_res {Z : World} {s : Nat} {c : Cd} {b : Bool} (h : Lrow Z s 31 (ccell c)) (tmps : Array Value) (e6 : tmps[6]?.getD undef = .pointer (some ⟨s, 0, none⟩)) (e7 : tmps[7]?.getD undef = .bool b) :
    (results Try.f12 tmps).run Try.prog Z = .ok (.tuple #[cv c, .bool b]) Z := by
  have c0 : Z.cell? ⟨s, 0, none⟩ = some (.int .i64 c.s) := h.cell 0
  have c1 : Z.cell? ⟨s, 1, none⟩ = some (.int .i64 c.p) := h.cell 1
  have c2 : Z.cell? ⟨s, 2, none⟩ = some (.int .i64 c.o) := h.cell 2
  have c3 : Z.cell? ⟨s, 3, none⟩ = some (.int .i64 c.f) := h.cell 3
  have c4 : Z.cell? ⟨s, 4, none⟩ = some (.bool c.w) := h.cell 4
  simp [results, Try.f12, e6, e7, go_sem, c0, c1, c2, c3, c4]
set_option maxHeartbeats 4000000 in
set_option maxRecDepth 100000 in
theorem refLook_any (h : Rb B w xa z v L) (hok : ∀ c ∈ L, ROk c) (hL : L.length ≤ 64) (sp : Int) {q : Int} (hq : Fits q) : Calls Try.prog 12 #[.pointer (some ⟨xa, 0, none⟩), .int .i64 sp, .int .i64 q] w fun e w' => e = .returned (.tuple #[cv (lkC (lkR L sp q)), .bool (lkR L sp q).isSome]) ∧ Below w.heap.size w w' := by
  obtain ⟨A, c, rfl⟩ := h.own.form
  obtain ⟨N, hN⟩ : ∃ N, N = L.length := ⟨_, rfl⟩
  obtain ⟨W0, hW0⟩ : ∃ W0, W0 = w.alloc (.cells #[.int .i64 0, .int .i64 0, .int .i64 0, .int .i64 0, .bool false] 31) := ⟨_, rfl⟩
  obtain ⟨s, hs⟩ : ∃ s, s = w.heap.size := ⟨_, rfl⟩
  have g0 : Below w.heap.size w W0 := hW0 ▸ below_new w _
  have rs : Lrow W0 s 31 zcell := by rw [hW0, hs]; exact Lrow.new w _ zcell
  have HH := Lib.hid (h.call g0)
  have HOK := Lib.hid hok
  have HME := Lib.hid (fun (c : Cd) (hc : ROk c) w => hold9_any hc (s1 := sp) hq w)
  have hc1 := (h.call g0).c1
  have hxl := (h.call g0).top.lt
  have hxs : xa < s := hs ▸ h.top.lt
  rw [← hN] at hc1
  have HN := Lib.hid hN
  have n64 : (N : Int) ≤ 64 := by omega
  have HW := Lib.hid (And.intro hW0 hs)
  have HG0 := Lib.hid g0
  have hls := rs.lt
  have HRS := Lib.hid rs
  have hlow : ∀ j (hj : j < L.length), ∃ g, A = some ⟨g, 0, none⟩ ∧ g < s ∧ CdAt W0 ⟨g, j * 5, none⟩ L[j] := fun j hj => by
    obtain ⟨g, e, hl, -, hat⟩ := h.own.at_ j hj
    exact ⟨g, e, hs ▸ hl, hat.heap (g0.block g hl)⟩
  have HLOW := Lib.hid hlow
  clear h hq hok hW0 hs g0 rs hlow
  go_enter Try.func12, Try.ntmps12
  go_upto_region 1 with (fail)
  rw [← HW.out.1, ← HW.out.2]
  go_wp2
  go_loopw [8] (fun i wr => ∃ (j : Nat), j ≤ N ∧ i = .int .i64 j ∧ (∀ i (hi : i < L.length), i < j → hdB L[i] sp q = false) ∧ Below W0.heap.size W0 wr) (fun i _ => N - (intOf i).toNat)
  case atStart => exact ⟨0, Nat.zero_le _, rfl, fun i _ h => absurd h (Nat.not_lt_zero _), Below.refl _ _⟩
  case round =>
    obtain ⟨j, hj, rfl, hno, hb⟩ := hrel
    have hcw : wr.cell? ⟨xa, 1, none⟩ = some (.slice A N c) := (hb.cell (p := ⟨xa, 1, none⟩) hxl).trans hc1
    have hrs := HRS.out.call hb
    have HB := Lib.hid hb
    by_cases hlt : j < N
    · have hjl : j < L.length := by have := HN.out; omega
      obtain ⟨g, rfl, hgs, hat⟩ := HLOW.out j hjl
      obtain ⟨x, ex⟩ : ∃ x, x = L[j] := ⟨_, rfl⟩
      have hxo : ROk x := ex ▸ HOK.out _ (List.getElem_mem _)
      have hatw := hat.heap (w' := wr) (hb.block g (by show g < _; omega))
      have HATT : Hid (hdB x sp q = true → L.find? (fun c => hdB c sp q) = some x) := fun hf => by
        have := find_at (f := fun c => hdB c sp q) hjl hno (by rw [← ex]; exact hf)
        rw [this, ← ex]
      have HNOO : Hid (hdB x sp q = false → ∀ i (hi : i < L.length), i < j + 1 → hdB L[i] sp q = false) := fun hf i hi hij => by
        by_cases e : i = j
        · subst e; rw [← ex]; exact hf
        · exact hno i hi (by omega)
      rw [← ex] at hatw
      have hme := fun w => HME.out x hxo w
      have e0 := hatw.c0
      have e1 := hatw.c1
      have e2 := hatw.c2
      have e3 := hatw.c3
      have e4 := hatw.c4
      dsimp only at e0 e1 e2 e3 e4
      have jN : (j : Int) < N := by omega
      have j0 : (0 : Int) ≤ j := by omega
      have HRW := Lib.hid hrs
      clear hat hatw hj hjl hxo ex hno hrs
      obtain ⟨xs, xp, xo, xf, xw⟩ := x
      dsimp only at e0 e1 e2 e3 e4
      go_wp2_with fail
      refine (hme _).mono ?_
      rintro e W2 ⟨rfl, hb2⟩
      have HB2 := Lib.hid (HB.out.trans (hb2.mono HB.out.size))
      cases hmt : hdB ⟨xs, xp, xo, xf, xw⟩ sp q
      · have HNZ := Lib.hid (HNOO.out hmt)
        clear hb2
        go_wp2_with fail
        go_roundw
        case rel => exact ⟨j + 1, by omega, by go_num, HNZ.out, HB2.out⟩
        case measure => simp [intOf]; omega
      · have hsz := hb2.size
        have hsr := HB.out.size
        have hg2 : W2.heap[g]? = wr.heap[g]? := hb2.block g (by omega)
        have hcw2 : W2.cell? ⟨xa, 1, none⟩ = some (.slice (some ⟨g, 0, none⟩) N c) := (hb2.cell (p := ⟨xa, 1, none⟩) (by show xa < _; omega)).trans hcw
        have k0 := (World.cell?_of_block (a := ⟨g, j * 5, none⟩) hg2).trans e0
        have k1 := (World.cell?_of_block (a := ⟨g, j * 5 + 1, none⟩) hg2).trans e1
        have k2 := (World.cell?_of_block (a := ⟨g, j * 5 + 2, none⟩) hg2).trans e2
        have k3 := (World.cell?_of_block (a := ⟨g, j * 5 + 3, none⟩) hg2).trans e3
        have k4 := (World.cell?_of_block (a := ⟨g, j * 5 + 4, none⟩) hg2).trans e4
        have r2 := HRW.out.call hb2
        have q0 : W2.cell? ⟨s, 0, none⟩ = some (.int .i64 0) := r2.cell 0
        have q1 : W2.cell? ⟨s, 1, none⟩ = some (.int .i64 0) := r2.cell 1
        have q2 : W2.cell? ⟨s, 2, none⟩ = some (.int .i64 0) := r2.cell 2
        have q3 : W2.cell? ⟨s, 3, none⟩ = some (.int .i64 0) := r2.cell 3
        have q4 : W2.cell? ⟨s, 4, none⟩ = some (.bool false) := r2.cell 4
        have f0 := fun i => r2.frozen i
        have HL : Hid (lkR L sp q = some ⟨xs, xp, xo, xf, xw⟩) := HATT.out hmt
        have HR2 := Lib.hid r2
        clear r2 hb2 hg2
        go_wp2_with fail
        obtain ⟨V6, hV6⟩ : ∃ V6, V6 = ((((W2.setCell ⟨s, 0, none⟩ (.int .i64 xs)).setCell ⟨s, 1, none⟩ (.int .i64 xp)).setCell ⟨s, 2, none⟩ (.int .i64 xo)).setCell ⟨s, 3, none⟩ (.int .i64 xf)).setCell ⟨s, 4, none⟩ (.bool xw) := ⟨_, rfl⟩
        rw [← hV6]
        have hl6 : Lrow V6 s 31 (ccell ⟨xs, xp, xo, xf, xw⟩) := by rw [hV6]; exact ((((HR2.out.set_ 0 _).set_ 1 _).set_ 2 _).set_ 3 _).set_ 4 _
        have hb6 : Below w.heap.size w V6 := by
          have h0 : Below w.heap.size w W2 := HG0.out.trans (HB2.out.mono HG0.out.size)
          have hws : w.heap.size ≤ s := Nat.le_of_eq HW.out.2.symm
          rw [hV6]
          exact ((((h0.setCell (p := ⟨s, 0, none⟩) hws _).setCell (p := ⟨s, 1, none⟩) hws _).setCell (p := ⟨s, 2, none⟩) hws _).setCell (p := ⟨s, 3, none⟩) hws _).setCell (p := ⟨s, 4, none⟩) hws _
        refine bodyPost_ret (lkR_res hl6 _ rfl rfl) rfl ?_
        rw [HL.out]
        exact ⟨rfl, hb6⟩
    · have hjN : j = N := by omega
      have HL : Hid (lkR L sp q = none) := by
        show lkR L sp q = none
        unfold lkR
        rw [find_take (j := j) hno, List.drop_of_length_le (by have := HN.out; omega)]
        rfl
      have q0 : wr.cell? ⟨s, 0, none⟩ = some (.int .i64 0) := hrs.cell 0
      have q1 : wr.cell? ⟨s, 1, none⟩ = some (.int .i64 0) := hrs.cell 1
      have q2 : wr.cell? ⟨s, 2, none⟩ = some (.int .i64 0) := hrs.cell 2
      have q3 : wr.cell? ⟨s, 3, none⟩ = some (.int .i64 0) := hrs.cell 3
      have q4 : wr.cell? ⟨s, 4, none⟩ = some (.bool false) := hrs.cell 4
      have f0 := fun i => hrs.frozen i
      have HR2 := Lib.hid hrs
      clear hno hrs
      go_wp2_with fail
      obtain ⟨V6, hV6⟩ : ∃ V6, V6 = ((((wr.setCell ⟨s, 0, none⟩ (.int .i64 0)).setCell ⟨s, 1, none⟩ (.int .i64 0)).setCell ⟨s, 2, none⟩ (.int .i64 0)).setCell ⟨s, 3, none⟩ (.int .i64 0)).setCell ⟨s, 4, none⟩ (.bool false) := ⟨_, rfl⟩
      rw [← hV6]
      have hl6 : Lrow V6 s 31 (ccell ⟨0, 0, 0, 0, false⟩) := by rw [hV6]; exact ((((HR2.out.set_ 0 _).set_ 1 _).set_ 2 _).set_ 3 _).set_ 4 _
      have hb6 : Below w.heap.size w V6 := by
        have h0 : Below w.heap.size w wr := HG0.out.trans (HB.out.mono HG0.out.size)
        have hws : w.heap.size ≤ s := Nat.le_of_eq HW.out.2.symm
        rw [hV6]
        exact ((((h0.setCell (p := ⟨s, 0, none⟩) hws _).setCell (p := ⟨s, 1, none⟩) hws _).setCell (p := ⟨s, 2, none⟩) hws _).setCell (p := ⟨s, 3, none⟩) hws _).setCell (p := ⟨s, 4, none⟩) hws _
      refine bodyPost_ret (lkR_res hl6 _ rfl rfl) rfl ?_
      rw [HL.out]
      exact ⟨rfl, hb6⟩
end
end Go.Proofs.Ytbnnfgdlkldafaa
