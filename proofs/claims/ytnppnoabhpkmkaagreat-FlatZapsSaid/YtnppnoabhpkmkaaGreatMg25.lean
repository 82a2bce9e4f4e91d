/- The reference's Same, New. -/
import Derived.Test.YtnppnoabhpkmkaaGreatMg06
import Derived.Laws.OwnMore
import Derived.Test.YtnppnoabhpkmkaaGreatMg12
namespace Go.Proofs.YtnppnoabhpkmkaaGreat
open Go.RowKit
theorem sameA_any_ne {f t h p o x f' t' h' p' o' x' : Int} (hne : (⟨f, t, h, p, o, x⟩ : Ar) ≠ ⟨f', t', h', p', o', x'⟩) : (¬ f = f') ∨ (f = f' ∧ ¬ t = t') ∨ (f = f' ∧ t = t' ∧ ¬ h = h') ∨ (f = f' ∧ t = t' ∧ h = h' ∧ ¬ p = p') ∨ (f = f' ∧ t = t' ∧ h = h' ∧ p = p' ∧ ¬ o = o') ∨ (f = f' ∧ t = t' ∧ h = h' ∧ p = p' ∧ o = o' ∧ ¬ x = x') := by
  have k : ¬ (f = f' ∧ t = t' ∧ h = h' ∧ p = p' ∧ o = o' ∧ x = x') := fun ⟨e0, e1, e2, e3, e4, e5⟩ => hne (by rw [e0, e1, e2, e3, e4, e5])
  omega
set_option maxHeartbeats 4000000 in
set_option maxRecDepth 100000 in
theorem sameA_any {w : World} {A A' : Option Addr} {c c' : Nat} {L M : List Ar} (hL : EAr.Ls w A L) (hM : EAr.Ls w A' M) (hl : L.length ≤ 5000) (hm : M.length ≤ 5000) :
    Calls Tryz.prog 26 #[.slice A L.length c, .slice A' M.length c'] w fun e w' => e = .returned (.bool (decide (L = M))) ∧ Below w.heap.size w w' := by
  obtain ⟨n, hn⟩ : ∃ n, n = L.length := ⟨_, rfl⟩
  by_cases hnm : L.length = M.length
  · have hnm' : n = M.length := hn.trans hnm
    rw [← hnm', ← hn]
    have HN := Lib.hid (And.intro hn hnm')
    have HL := Lib.hid hL
    have HM := Lib.hid hM
    have n64 : (n : Int) ≤ 5000 := by omega
    clear hL hM hl hm hnm hn hnm'
    go_enter Tryz.func26, Tryz.ntmps26
    go_wp2
    go_loopw [5] (fun i wr => ∃ j k : Nat, j ≤ n ∧ i = .int .i64 j ∧ wr = w.drewN k ∧ ∀ i (h1 : i < L.length) (h2 : i < M.length), i < j → L[i] = M[i]) (fun i _ => n - (RowKit.intOf i).toNat)
    case atStart => exact ⟨0, 0, Nat.zero_le _, rfl, rfl, fun i _ _ h => absurd h (Nat.not_lt_zero _)⟩
    case round =>
      obtain ⟨j, k, hj, rfl, rfl, heq⟩ := hrel
      have HEQ := Lib.hid heq
      clear heq
      by_cases hlt : j < n
      · have hjl : j < L.length := by have := HN.out.1; omega
        have hjm : j < M.length := by have := HN.out.2; omega
        obtain ⟨g, rfl, -, hat⟩ := HL.out (by omega)
        obtain ⟨g', rfl, -, hat'⟩ := HM.out (by omega)
        have hat := hat j hjl
        have hat' := hat' j hjm
        obtain ⟨x, ex⟩ : ∃ x, x = L[j] := ⟨_, rfl⟩
        obtain ⟨y, ey⟩ : ∃ y, y = M[j] := ⟨_, rfl⟩
        rw [← ex] at hat
        rw [← ey] at hat'
        have HX := Lib.hid ex
        have HY := Lib.hid ey
        obtain ⟨w1, ew⟩ : ∃ w1, w1 = w.drewN k := ⟨_, rfl⟩
        have hw : ∀ a, w1.cell? a = w.cell? a := fun a => by rw [ew]; rfl
        rw [← ew]
        have HW := Lib.hid ew
        have jn : (j : Int) < n := by omega
        have j0 : (0 : Int) ≤ j := by omega
        obtain ⟨f, t, h, p, o, x⟩ := x
        obtain ⟨f', t', h', p', o', x'⟩ := y
        have c0 : w1.cell? ⟨g, j * 6, none⟩ = some (.int .i64 f) := (hw _).trans (hat 0 (by decide))
        have d0 : w1.cell? ⟨g', j * 6, none⟩ = some (.int .i64 f') := (hw _).trans (hat' 0 (by decide))
        have c1 : w1.cell? ⟨g, j * 6 + 1, none⟩ = some (.int .i64 t) := (hw _).trans (hat 1 (by decide))
        have d1 : w1.cell? ⟨g', j * 6 + 1, none⟩ = some (.int .i64 t') := (hw _).trans (hat' 1 (by decide))
        have c2 : w1.cell? ⟨g, j * 6 + 2, none⟩ = some (.int .i64 h) := (hw _).trans (hat 2 (by decide))
        have d2 : w1.cell? ⟨g', j * 6 + 2, none⟩ = some (.int .i64 h') := (hw _).trans (hat' 2 (by decide))
        have c3 : w1.cell? ⟨g, j * 6 + 3, none⟩ = some (.int .i64 p) := (hw _).trans (hat 3 (by decide))
        have d3 : w1.cell? ⟨g', j * 6 + 3, none⟩ = some (.int .i64 p') := (hw _).trans (hat' 3 (by decide))
        have c4 : w1.cell? ⟨g, j * 6 + 4, none⟩ = some (.int .i64 o) := (hw _).trans (hat 4 (by decide))
        have d4 : w1.cell? ⟨g', j * 6 + 4, none⟩ = some (.int .i64 o') := (hw _).trans (hat' 4 (by decide))
        have c5 : w1.cell? ⟨g, j * 6 + 5, none⟩ = some (.int .i64 x) := (hw _).trans (hat 5 (by decide))
        have d5 : w1.cell? ⟨g', j * 6 + 5, none⟩ = some (.int .i64 x') := (hw _).trans (hat' 5 (by decide))
        clear hw hat hat' ex ey ew
        by_cases hxy : (⟨f, t, h, p, o, x⟩ : Ar) = ⟨f', t', h', p', o', x'⟩
        · have HXY := Lib.hid hxy
          injection hxy with q1 q2 q3 q4 q5 q6
          subst q1 q2 q3 q4 q5 q6
          go_wp2_with fail
          go_region
          all_goals
            go_wp2_with fail
            go_roundw
            case rel =>
              refine ⟨j + 1, k + 1, by omega, by go_num, by rw [HW.out]; rfl, fun i h1 h2 hij => ?_⟩
              by_cases e : i = j
              · subst e; rw [← HX.out, ← HY.out]
              · exact HEQ.out i h1 h2 (by omega)
            case measure => simp [RowKit.intOf]; omega
        · have HNE : Hid (decide (L = M) = false) := by
            show _ = _
            rw [decide_eq_false_iff_not]
            intro e
            subst e
            exact hxy (HX.out.trans HY.out.symm)
          have hcs := sameA_any_ne hxy
          clear hxy
          rcases hcs with q | ⟨q1, q⟩ | ⟨q1, q2, q⟩ | ⟨q1, q2, q3, q⟩ | ⟨q1, q2, q3, q4, q⟩ | ⟨q1, q2, q3, q4, q5, q⟩
          all_goals
            (try subst q1)
            (try subst q2)
            (try subst q3)
            (try subst q4)
            (try subst q5)
            go_wp2_with fail
            go_region
            all_goals
              go_wp2_with fail
              go_ret
              exact ⟨ret_bool HNE.out.symm, by rw [HW.out]; exact below_dN (Below.refl _ _) (k + 1)⟩
      · have hy : Hid (decide (L = M) = true) := by
          show _ = _
          rw [decide_eq_true_eq]
          refine List.ext_getElem (HN.out.1.symm.trans HN.out.2) fun i h1 h2 => HEQ.out i h1 h2 (by have := HN.out.1; omega)
        have hd : ¬ (j : Int) < n := by omega
        obtain ⟨w1, ew⟩ : ∃ w1, w1 = w.drewN k := ⟨_, rfl⟩
        rw [← ew]
        have HW := Lib.hid ew
        clear ew
        go_wp2_with fail
        go_ret
        exact ⟨ret_bool hy.out.symm, by rw [HW.out]; exact below_dN (Below.refl _ _) k⟩
  · have hy : Hid (false = decide (L = M)) := by
      show _ = _
      symm
      rw [decide_eq_false_iff_not]
      rintro rfl
      exact hnm rfl
    obtain ⟨m, hm'⟩ : ∃ m, m = M.length := ⟨_, rfl⟩
    rw [← hm', ← hn]
    have hne : ((n : Int) != (m : Int)) = true := by simpa using (by omega : ¬ (n : Int) = m)
    have hne2 : ¬ (n : Int) = m := by omega
    clear hL hM hl hm hnm hn hm'
    go_enter Tryz.func26, Tryz.ntmps26
    go_wp2
    go_ret
    exact ⟨ret_bool hy.out, Below.refl _ _⟩
theorem zcells (n : Nat) : EPg.cells (List.replicate n zP) = List.replicate (n * 4) (.int .i64 0) := by
  induction n with
  | zero => rfl
  | succ n ih =>
    rw [List.replicate_succ, Enc.cells_cons, ih, show (n + 1) * 4 = 4 + n * 4 by omega, ← List.replicate_append_replicate]
    rfl
theorem made_zero (m : Nat) : (madeCells (Value.agg #[.int .i64 0, .int .i64 0, .int .i64 0, .int .i64 0]).cells m).toList = List.replicate m (.int .i64 0) := by
  apply List.ext_getElem?
  intro j
  by_cases hj : j < m
  · have h4 : j % 4 = 0 ∨ j % 4 = 1 ∨ j % 4 = 2 ∨ j % 4 = 3 := by omega
    rcases h4 with e | e | e | e <;> simp [madeCells, hj, Value.cells, e]
  · simp [madeCells, hj]
def NewedX (w : World) (e : Ending) (w' : World) : Prop := ∃ xa v, e = .returned (.pointer (some ⟨xa, 0, none⟩)) ∧ Px w.heap.size w' xa v (fun _ => zP) ∧ Below w.heap.size w w'
theorem PsOk.zero : PsOk (fun _ => zP) := ⟨fun _ => zP_ok, fun _ _ => rfl, fun _ => ⟨Int.le_refl _, by decide⟩⟩
set_option maxRecDepth 100000 in
theorem xnew_is (w : World) : Calls Tryz.prog 32 #[] w (NewedX w) := by
  obtain ⟨i0, hi0, hz0, hz1, hz2⟩ := info_parts EPg.info
  obtain ⟨W1, r1, o1, g1⟩ := run_makeSlice_full (P := Tryz.prog) (w := w) w.heap.size 46 45 i0 _ 4 EPg.und hi0 hz0 hz1 .i64 .i64 4096 (by decide) (by rw [hz2]; decide) (by decide) (Nat.le_refl _)
  have ho : EPg.Own w.heap.size W1 (.slice (some ⟨w.heap.size, 0, none⟩) 4096 4096) (List.replicate 4096 zP) := by
    show W1.ownsRow w.heap.size 45 4 _ (List.replicate 4096 zP).length (EPg.cells (List.replicate 4096 zP))
    rw [List.length_replicate, zcells, ← made_zero]
    exact o1
  have hb : Below w.heap.size w W1 := (Below.refl _ _).grown g1 (Nat.le_refl _) (fun k e => by cases e)
  have HEND : Hid (NewedX w (.returned (.pointer (some ⟨W1.heap.size, 0, none⟩))) (W1.alloc (.cells #[.slice (some ⟨w.heap.size, 0, none⟩) 4096 4096] 48))) :=
    ⟨W1.heap.size, _, rfl, ⟨Lrow.new W1 _ _, ⟨_, List.length_replicate, ho.call (below_new _ _), fun i h => List.getElem_replicate ..⟩, PsOk.zero, hb.size, Nat.le_trans hb.size (below_new W1 (.cells #[.slice (some ⟨w.heap.size, 0, none⟩) 4096 4096] 48)).size⟩, hb.alloc hb.size _⟩
  have hmk : (Instr.makeSlice 46 (.int .i64 4096) (.int .i64 4096)).run Tryz.prog w = .ok (.slice (some ⟨w.heap.size, 0, none⟩) 4096 4096) W1 := r1
  clear o1 g1 ho hb hi0 hz0 hz1 hz2 r1
  go_enter Tryz.func32, Tryz.ntmps32
  go_wp2
  go_ret
  exact HEND.out
end Go.Proofs.YtnppnoabhpkmkaaGreat
/- The reference of spaces as it lies: rows of words, a space, all spaces and objects. -/
namespace Go.Proofs.YtnppnoabhpkmkaaGreat
open Go.RowKit
def EU : Enc Tryz.prog Int where
  enc x := [.int .u64 x]
  sz := 1
  el := 23
  sl := 50
  zero := .int .u64 0
  bytes := 8
  len _ := rfl
  one a u h := by
    simp only [List.mem_cons, List.not_mem_nil, or_false] at h
    rcases h with rfl
    rfl
  pos := by decide
  zsz := rfl
  und := by kernel_rfl
  info := by kernel_rfl
  small := by decide
/-- Pointers to spaces. -/
def ESp : Enc Tryz.prog Nat where
  enc x := [.pointer (some ⟨x, 0, none⟩)]
  sz := 1
  el := 53
  sl := 35
  zero := .pointer none
  bytes := 8
  len _ := rfl
  one a u h := by
    simp only [List.mem_cons, List.not_mem_nil, or_false] at h
    rcases h with rfl
    rfl
  pos := by decide
  zsz := rfl
  und := by kernel_rfl
  info := by kernel_rfl
  small := by decide
/-- Objects' words: rows of 32,768. -/
def EOw : Enc Tryz.prog (Nat × Nat) where
  enc q := [.slice (some ⟨q.1, 0, none⟩) 32768 q.2]
  sz := 1
  el := 50
  sl := 36
  zero := .slice none 0 0
  bytes := 24
  len _ := rfl
  one a u h := by
    simp only [List.mem_cons, List.not_mem_nil, or_false] at h
    rcases h with rfl
    rfl
  pos := by decide
  zsz := rfl
  und := by kernel_rfl
  info := by kernel_rfl
  small := by decide
/-- A row of 32,768 words: what it says. -/
def WIs (B : Nat) (w : World) (q : Nat × Nat) (W : Int → Int) : Prop := ∃ L : List Int, L.length = 32768 ∧ EU.Own B w (.slice (some ⟨q.1, 0, none⟩) 32768 q.2) L ∧ ∀ (i : Nat) (h : i < L.length), L[i] = W i
section
variable {w w' : World} {B : Nat} {q : Nat × Nat} {W : Int → Int}
theorem WIs.block (h : WIs B w q W) : (∃ vs, Lrow w q.1 23 vs) ∧ B ≤ q.1 := by
  obtain ⟨L, hl, ho, _⟩ := h
  obtain ⟨vs, r, hB⟩ := ho.block rfl
  exact ⟨⟨vs, r⟩, hB⟩
theorem WIs.lt (h : WIs B w q W) : q.1 < w.heap.size := by obtain ⟨⟨vs, r⟩, _⟩ := h.block; exact r.lt
theorem WIs.heap (h : WIs B w q W) (hk : w'.heap[q.1]? = w.heap[q.1]?) : WIs B w' q W := by
  obtain ⟨L, hl, ho, hp⟩ := h
  exact ⟨L, hl, ho.heap (fun g e => by injection e with e; subst e; exact hk), hp⟩
theorem WIs.call (h : WIs B w q W) (hb : Below w.heap.size w w') : WIs B w' q W := h.heap (hb.block _ h.lt)
theorem WIs.drewN (h : WIs B w q W) (k : Nat) : WIs B (w.drewN k) q W := h.heap rfl
theorem WIs.base {B' : Nat} (h : WIs B w q W) (hb : B' ≤ B) : WIs B' w q W := by
  obtain ⟨L, hl, ho, hp⟩ := h
  exact ⟨L, hl, ho.base hb, hp⟩
theorem WIs.eq (h : WIs B w q W) {W' : Int → Int} (e : ∀ i : Nat, i < 32768 → W' i = W i) : WIs B w q W' := by
  obtain ⟨L, hl, ho, hp⟩ := h
  exact ⟨L, hl, ho, fun i hi => by rw [hp i hi, e i (by omega)]⟩
theorem WIs.at_ (h : WIs B w q W) {i : Nat} (hi : i < 32768) : w.cell? ⟨q.1, i, none⟩ = some (.int .u64 (W i)) ∧ w.frozen? ⟨q.1, i, none⟩ = false := by
  obtain ⟨L, hl, ho, hp⟩ := h
  obtain ⟨g, e, _, _, _, hat⟩ := ho.some_ (by omega)
  injection e with e
  injection e with e _ _
  subst e
  have h0 := hat i (by omega) 0 (by decide)
  rw [hp i (by omega), show i * EU.sz + 0 = i from by show i * 1 + 0 = i; omega] at h0
  obtain ⟨vs, r, _⟩ := ho.block rfl
  exact ⟨h0, r.frozen i⟩
/-- One word is another. -/
theorem WIs.put (h : WIs B w q W) {i : Nat} (hi : i < 32768) (v : Int) : WIs B (w.setCell ⟨q.1, i, none⟩ (.int .u64 v)) q (fun j => if j = i then v else W j) := by
  obtain ⟨L, hl, ho, hp⟩ := h
  have hh := (ho.put (j := i) (q := 0) (by omega) (by decide) (u := .int .u64 v) (x := v) rfl rfl).2
  rw [show i * EU.sz + 0 = i from by show i * 1 + 0 = i; omega] at hh
  refine ⟨L.set i v, by rw [List.length_set]; exact hl, hh, fun j hj => ?_⟩
  rw [List.getElem_set]
  dsimp only
  by_cases e : i = j
  · subst e; rw [if_pos rfl, if_pos rfl]
  · rw [if_neg e, if_neg (by omega)]
    exact hp j (by rw [List.length_set] at hj; exact hj)
end
/-- A space's blocks. -/
structure SpB where
  sb : Nat
  ab : Nat
  wq : Nat × Nat
  v : Value
structure SpAt (B : Nat) (w : World) (s : SpB) (S : Sp) : Prop where
  top : Lrow w s.sb 52 [.pointer (some ⟨s.ab, 0, none⟩), .slice (some ⟨s.wq.1, 0, none⟩) 32768 s.wq.2, .bool S.g]
  ars : Px B w s.ab s.v S.P
  wds : WIs B w s.wq S.W
  lo : B ≤ s.sb
/-- The blocks of a space. -/
def MineS (s : SpB) (k : Nat) : Prop := k = s.sb ∨ k = s.ab ∨ k = s.wq.1
section
variable {w w' : World} {B : Nat} {s : SpB} {S : Sp}
theorem Px.block {xa : Nat} {v : Value} {P : Int → Pg} (h : Px B w xa v P) {k : Nat} (e : v.ownBlock = some k) : (∃ vs, Lrow w k 45 vs) ∧ B ≤ k := by
  obtain ⟨L, hl, ho, hp⟩ := h.own
  obtain ⟨vs, r, hB⟩ := ho.block e
  exact ⟨⟨vs, r⟩, hB⟩
theorem SpAt.lt (h : SpAt B w s S) : ∀ k, MineS s k → k < w.heap.size := by
  rintro k (rfl | rfl | rfl)
  · exact h.top.lt
  · exact h.ars.top.lt
  · exact h.wds.lt
theorem SpAt.low (h : SpAt B w s S) : ∀ k, MineS s k → B ≤ k := by
  rintro k (rfl | rfl | rfl)
  · exact h.lo
  · exact h.ars.lo
  · exact h.wds.block.2
theorem SpAt.keep (h : SpAt B w s S) (hs : w.heap.size ≤ w'.heap.size) (hk : ∀ k, MineS s k → w'.heap[k]? = w.heap[k]?) (hp : ∀ k vs, Lrow w k 45 vs → w'.heap[k]? = w.heap[k]?) : SpAt B w' s S :=
  ⟨(hk _ (Or.inl rfl)).trans h.top, h.ars.keep hs (fun k e _ => by
    rcases e with e | e
    · exact hk k (Or.inr (Or.inl e))
    · obtain ⟨⟨vs, r⟩, _⟩ := h.ars.block e
      exact hp k vs r), h.wds.heap (hk _ (Or.inr (Or.inr rfl))), h.lo⟩
theorem SpAt.call (h : SpAt B w s S) (hb : Below w.heap.size w w') : SpAt B w' s S := h.keep hb.size (fun k hk => hb.block k (h.lt k hk)) fun k _ r => hb.block k r.lt
theorem SpAt.base {B' : Nat} (h : SpAt B w s S) (hb : B' ≤ B) : SpAt B' w s S := by
  obtain ⟨L, hl, ho, hp⟩ := h.ars.own
  exact ⟨h.top, ⟨h.ars.top, ⟨L, hl, ho.base hb, hp⟩, h.ars.ok, Nat.le_trans hb h.ars.lo, Nat.le_trans hb h.ars.lw⟩, h.wds.base hb, Nat.le_trans hb h.lo⟩
end
/-- All spaces and objects. -/
structure RfT where
  xa : Nat
  vl : Value
  vo : Value
  LS : List SpB
  LO : List (Nat × Nat)
structure RfAt (B : Nat) (w : World) (T : RfT) (F : Fl) : Prop where
  top : Lrow w T.xa 38 [T.vl, T.vo]
  ls : ESp.Own B w T.vl (T.LS.map SpB.sb)
  os : EOw.Own B w T.vo T.LO
  nl : T.LS.length = F.L.length
  no : T.LO.length = F.O.length
  sps : ∀ i (h : i < T.LS.length) (h2 : i < F.L.length), SpAt B w T.LS[i] F.L[i]
  obs : ∀ i (h : i < T.LO.length) (h2 : i < F.O.length), WIs B w T.LO[i] F.O[i]
  dS : (T.LS.map SpB.sb).Nodup
  dA : (T.LS.map SpB.ab).Nodup
  dW : ((T.LS.map fun s => s.wq.1) ++ T.LO.map Prod.fst).Nodup
  lo : B ≤ T.xa
def MineF (T : RfT) (k : Nat) : Prop := k = T.xa ∨ T.vl.ownBlock = some k ∨ T.vo.ownBlock = some k ∨ (∃ s ∈ T.LS, MineS s k) ∨ ∃ q ∈ T.LO, k = q.1
/-- What a call of the reference has done. -/
def DidF (B : Nat) (w : World) (T : RfT) (F : Fl) (w' : World) : Prop :=
  ∃ T', T'.xa = T.xa ∧ RfAt B w' T' F ∧ Foot (MineF T) w w' ∧ ∀ k, MineF T' k → MineF T k ∨ w.heap.size ≤ k
section
variable {w w' : World} {B : Nat} {T : RfT} {F F' : Fl}
theorem RfAt.lt (h : RfAt B w T F) : ∀ k, MineF T k → k < w.heap.size := by
  rintro k (rfl | e | e | ⟨s, hs, hk⟩ | ⟨q, hq, rfl⟩)
  · exact h.top.lt
  · obtain ⟨vs, r, _⟩ := h.ls.block e; exact r.lt
  · obtain ⟨vs, r, _⟩ := h.os.block e; exact r.lt
  · obtain ⟨i, hi, rfl⟩ := List.getElem_of_mem hs
    exact (h.sps i hi (by rw [← h.nl]; exact hi)).lt k hk
  · obtain ⟨i, hi, rfl⟩ := List.getElem_of_mem hq
    exact (h.obs i hi (by rw [← h.no]; exact hi)).lt
theorem RfAt.low (h : RfAt B w T F) : ∀ k, MineF T k → B ≤ k := by
  rintro k (rfl | e | e | ⟨s, hs, hk⟩ | ⟨q, hq, rfl⟩)
  · exact h.lo
  · obtain ⟨vs, _, r⟩ := h.ls.block e; exact r
  · obtain ⟨vs, _, r⟩ := h.os.block e; exact r
  · obtain ⟨i, hi, rfl⟩ := List.getElem_of_mem hs
    exact (h.sps i hi (by rw [← h.nl]; exact hi)).low k hk
  · obtain ⟨i, hi, rfl⟩ := List.getElem_of_mem hq
    exact (h.obs i hi (by rw [← h.no]; exact hi)).block.2
theorem RfAt.lw (h : RfAt B w T F) : B ≤ w.heap.size := by have := h.lo; have := h.top.lt; omega
theorem RfAt.keep (h : RfAt B w T F) (hs : w.heap.size ≤ w'.heap.size) (hk : ∀ k, MineF T k → w'.heap[k]? = w.heap[k]?) (hp : ∀ k vs, Lrow w k 45 vs → w'.heap[k]? = w.heap[k]?) : RfAt B w' T F :=
  ⟨(hk _ (Or.inl rfl)).trans h.top, h.ls.heap (fun g e => hk g (Or.inr (Or.inl e))), h.os.heap (fun g e => hk g (Or.inr (Or.inr (Or.inl e)))), h.nl, h.no,
   fun i hi h2 => (h.sps i hi h2).keep hs (fun k e => hk k (Or.inr (Or.inr (Or.inr (Or.inl ⟨_, List.getElem_mem hi, e⟩))))) hp, fun i hi h2 => (h.obs i hi h2).heap (hk _ (Or.inr (Or.inr (Or.inr (Or.inr ⟨_, List.getElem_mem hi, rfl⟩))))), h.dS, h.dA, h.dW, h.lo⟩
theorem RfAt.call (h : RfAt B w T F) (hb : Below w.heap.size w w') : RfAt B w' T F := h.keep hb.size (fun k hk => hb.block k (h.lt k hk)) fun k _ r => hb.block k r.lt
theorem RfAt.drewN (h : RfAt B w T F) (k : Nat) : RfAt B (w.drewN k) T F := h.keep (Nat.le_refl _) (fun _ _ => rfl) fun _ _ _ => rfl
theorem RfAt.did (h : RfAt B w T F) (hb : Below w.heap.size w w') : DidF B w T F w' := ⟨T, rfl, h.call hb, Foot.of_below hb, fun _ e => Or.inl e⟩
theorem DidF.pre {W : World} (h : Below W.heap.size W w) (d : DidF B w T F w') : DidF B W T F w' := by
  obtain ⟨T', d0, d1, d2, d3⟩ := d
  exact ⟨T', d0, d1, (Foot.of_below (X := MineF T) h).trans d2 (fun _ e _ => e), fun k e => (d3 k e).imp id fun e => Nat.le_trans h.size e⟩
theorem DidF.post (d : DidF B w T F w') {w'' : World} (h : Below w'.heap.size w' w'') : DidF B w T F w'' := by
  obtain ⟨T', d0, d1, d2, d3⟩ := d
  exact ⟨T', d0, d1.call h, d2.trans (Foot.of_below (X := MineF T) h) (fun _ e _ => e), d3⟩
theorem RfAt.c0 (h : RfAt B w T F) : w.cell? ⟨T.xa, 0, none⟩ = some T.vl := h.top.cell 0
theorem RfAt.c1 (h : RfAt B w T F) : w.cell? ⟨T.xa, 1, none⟩ = some T.vo := h.top.cell 1
/-- The space of a number. -/
theorem RfAt.space (h : RfAt B w T F) {i : Nat} (hi : i < F.L.length) : ∃ s, T.LS[i]? = some s ∧ SpAt B w s (sp F i) := by
  have hl : i < T.LS.length := by rw [h.nl]; exact hi
  refine ⟨T.LS[i], List.getElem?_eq_getElem hl, ?_⟩
  have := h.sps i hl hi
  unfold sp
  rw [Int.toNat_natCast, List.getD_eq_getElem?_getD, List.getElem?_eq_getElem hi]
  exact this
/-- 'f.L' as a slice, and the pointer at a place. -/
theorem RfAt.ptr (h : RfAt B w T F) {A : Option Addr} {n c : Nat} (hv : T.vl = .slice A n c) : n = F.L.length ∧ ∀ i : Nat, i < F.L.length → ∃ g s, A = some ⟨g, 0, none⟩ ∧ T.LS[i]? = some s ∧ w.cell? ⟨g, i, none⟩ = some (.pointer (some ⟨s.sb, 0, none⟩)) := by
  have ho := h.ls
  rw [hv] at ho
  have hn : n = (T.LS.map SpB.sb).length := by obtain ⟨_, _, e⟩ := ho.form; injection e
  rw [List.length_map, h.nl] at hn
  refine ⟨hn, fun i hi => ?_⟩
  have hi2 : i < T.LS.length := by rw [h.nl]; exact hi
  obtain ⟨g, e, _, _, _, hat⟩ := ho.some_ (by rw [List.length_map]; omega)
  have h0 := hat i (by rw [List.length_map]; exact hi2) 0 (by decide)
  rw [show i * ESp.sz + 0 = i from by show i * 1 + 0 = i; omega, List.getElem_map] at h0
  exact ⟨g, _, e, List.getElem?_eq_getElem hi2, h0⟩
end
end Go.Proofs.YtnppnoabhpkmkaaGreat
