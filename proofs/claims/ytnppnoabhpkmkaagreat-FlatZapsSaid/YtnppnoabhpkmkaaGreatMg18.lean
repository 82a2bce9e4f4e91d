/- The program's spaces: where an address's word is, whatever it is; Word. -/
import Derived.Test.YtnppnoabhpkmkaaGreatMg17
namespace Go.Proofs.YtnppnoabhpkmkaaGreat
open Go.RowKit
theorem modify_set {α : Type} {L : List α} {n : Nat} (z : α) (f : α → α) (hn : n < L.length) : L.modify n f = L.set n (f (L.getD n z)) := by
  apply List.ext_getElem?
  intro i
  rw [List.getElem?_modify, List.getElem?_set, List.getD_eq_getElem?_getD]
  by_cases c : n = i
  · subst c
    simp [hn]
  · simp [c]
def plcV (S : Sp) (s : PsB) (LO : List Nat) (a : Int) : Value :=
  if shr (S.P (a / 64)).h then .agg #[.map (some (LO.getD (S.P (a / 64)).o.toNat 0)), .int .i64 (S.P (a / 64)).x, .int .i64 (a / 8 % 8), .int .i64 (S.P (a / 64)).p]
  else .agg #[.map (some s.mb), .int .i64 (a / 64), .int .i64 (a / 8 % 8), .int .i64 (S.P (a / 64)).p]
def plZ : Value := .agg #[.map none, .int .i64 0, .int .i64 0, .int .i64 0]
section
variable {w w' : World} {B bx : Nat} {T : PfT} {F F' : Fl} {s s' : PsB} {S S' : Sp} {j : Nat} {a : Int}
theorem PfAt.at_ (h : PfAt B w T F) (hs : T.LS[j]? = some (some s)) : (sp F j).g = false ∧ PsAt B w s (sp F j) T.LO := by
  have := h.sps j s hs
  unfold sp
  rw [Int.toNat_natCast]; exact this
theorem find_any (h : PfAt B w T F) (ok : FlOk F) (hL : F.O.length ≤ 1000) (hs : T.LS[j]? = some (some s)) (hx : Lrow w bx 64 [.pointer (some ⟨s.sb, 0, none⟩)]) (hf : Fits a) :
    Calls Tryz.prog 50 #[.int .i64 a, .pointer (some ⟨bx, 0, none⟩)] w fun e w' => e = .returned (.tuple #[if celE 10 4 (sp F j) a = 0 then plcV (sp F j) s T.LO a else plZ, .int .i64 (celE 10 4 (sp F j) a)]) ∧ Below w.heap.size w w' := by
  obtain ⟨-, hp⟩ := h.at_ hs
  have hk := ok.sp j
  by_cases c1 : a < 0 ∨ 262143 < a
  · have e : celE 10 4 (sp F j) a = 10 := by unfold celE; rw [if_pos c1]
    rw [e]; exact find_far hf c1
  · by_cases c2 : a % 8 = 0
    · by_cases c3 : ((sp F j).P (a / 64)).h = 0
      · have e : celE 10 4 (sp F j) a = 10 := by unfold celE; rw [if_neg c1, if_neg (by omega), if_pos c3]
        rw [e]; exact find_out hp hx c1 c2 c3
      · have e : celE 10 4 (sp F j) a = 0 := by unfold celE; rw [if_neg c1, if_neg (by omega), if_neg c3]
        rw [e, if_pos rfl]
        unfold plcV
        by_cases c4 : shr ((sp F j).P (a / 64)).h
        · rw [if_pos c4]
          obtain ⟨o1, o2, o3, o4⟩ := hk.obj _ c4
          have hn : ((sp F j).P (a / 64)).o = (((sp F j).P (a / 64)).o.toNat : Nat) := by omega
          have hl : ((sp F j).P (a / 64)).o.toNat < T.LO.length := by rw [h.no]; omega
          have := find_obj hp hx c1 c2 c3 c4 hn hl (by rw [h.no]; exact hL) ⟨o3, by omega⟩
          rw [List.getD_eq_getElem?_getD, List.getElem?_eq_getElem hl]
          exact this
        · rw [if_neg c4]
          exact find_own hp hx c1 c2 c3 c4
    · have e : celE 10 4 (sp F j) a = 4 := by unfold celE; rw [if_neg c1, if_pos c2]
      rw [e]; exact find_off c1 c2
/-- What a place comes to. -/
theorem plc_at (h : PfAt B w T F) (ok : FlOk F) (hs : T.LS[j]? = some (some s)) (hE : celE 10 4 (sp F j) a = 0) :
    ∃ b p k W, plcV (sp F j) s T.LO a = .agg #[.map (some b), .int .i64 p, .int .i64 k, .int .i64 ((sp F j).P (a / 64)).p] ∧ 0 ≤ p ∧ p < 4096 ∧ 0 ≤ k ∧ k < 8 ∧ MemAt w b W ∧ W (p * 8 + k) = celV F (sp F j) a ∧ b < w.heap.size ∧ MineP T b ∧
      ∀ w' u, w.grownBy w' (some b) → MemAt w' b (wS W (p * 8 + k) u) → DidV B w T (celS F j a u) w' := by
  obtain ⟨gS, hp⟩ := h.at_ hs
  obtain ⟨a0, a1, a2, a3⟩ := celE_ok hE
  have hk := ok.sp j
  unfold plcV celV celS
  dsimp only
  by_cases c4 : shr ((sp F j).P (a / 64)).h
  · rw [if_pos c4, if_pos c4]
    obtain ⟨o1, o2, o3, o4⟩ := hk.obj _ c4
    obtain ⟨n, hn⟩ : ∃ n : Nat, ((sp F j).P (a / 64)).o = n := ⟨((sp F j).P (a / 64)).o.toNat, by omega⟩
    rw [hn, Int.toNat_natCast]
    have hl : n < T.LO.length := by rw [h.no]; omega
    have hlF : n < F.O.length := by rw [← h.no]; exact hl
    rw [List.getD_eq_getElem?_getD, List.getElem?_eq_getElem hl]
    obtain ⟨m1, m2⟩ := h.obs n hl
    refine ⟨T.LO[n], _, _, _, rfl, o3, o4, by omega, by omega, m1, rfl, m1.lt, Or.inr (Or.inr (Or.inr (List.getElem_mem hl))), fun w' u hg hW => ?_⟩
    rw [if_pos c4]
    have := h.putO hl hg hW
    rw [modify_set (fun _ => 0) _ hlF]
    exact this
  · rw [if_neg c4, if_neg c4]
    refine ⟨s.mb, _, _, _, rfl, by omega, by omega, by omega, by omega, hp.own, by congr 1; omega, hp.own.lt, Or.inr (Or.inr (Or.inl ⟨j, s, hs, Or.inr (Or.inr (Or.inl rfl))⟩)), fun w' u hg hW => ?_⟩
    rw [if_neg c4]
    have kk : ∀ k, k < w.heap.size → k ≠ s.mb → w'.heap[k]? = w.heap[k]? := fun k hk hne => hg.block k hk (by intro e; injection e with e; exact hne e)
    refine h.turn0 (s' := s) hs rfl rfl rfl rfl (Foot.grown hg (Or.inr (Or.inl rfl))) ⟨(kk _ hp.top.lt (hp.own.apart hp.top)).trans hp.top, hp.ars.keep hg.size (kk _ hp.ars.top.lt (hp.own.apart hp.ars.top)) (fun k vs r => kk k r.lt (hp.own.apart r)), hW.eq fun i _ _ => ?_, hp.obj.heap (kk _ hp.obj.lt fun e => (h.dM j s hs).1 e.symm), hp.lo⟩ gS
    show (if i = a / 8 then u else _) = wS _ _ _ _
    unfold wS
    rw [show a / 64 * 8 + a / 8 % 8 = a / 8 by omega]
set_option maxRecDepth 100000 in
theorem word_pr (h : PfAt B w T F) (ok : FlOk F) (hL : F.O.length ≤ 1000) (hs : T.LS[j]? = some (some s)) (hf : Fits a) :
    Calls Tryz.prog 14 #[.pointer (some ⟨T.s, 0, none⟩), .int .i64 j, .int .i64 a] w fun e w' => e = .returned (.tuple #[.int .u64 (if celE 10 4 (sp F j) a = 0 then celV F (sp F j) a else 0), .int .i64 (celE 10 4 (sp F j) a)]) ∧ Below w.heap.size w w' := by
  have hsp := space_yes h hs
  obtain ⟨W1, hW1⟩ : ∃ W1, W1 = w.alloc (.cells #[.pointer (some ⟨s.sb, 0, none⟩)] 64) := ⟨_, rfl⟩
  obtain ⟨q, hq⟩ : ∃ q, q = w.heap.size := ⟨_, rfl⟩
  have hb1 : Below w.heap.size w W1 := by rw [hW1]; exact below_new _ _
  have hr1 : Lrow W1 q 64 [.pointer (some ⟨s.sb, 0, none⟩)] := by rw [hW1, hq]; exact Lrow.new w _ [.pointer (some ⟨s.sb, 0, none⟩)]
  have hfd := find_any (h.call hb1) ok hL hs hr1 hf
  have HW := Lib.hid (And.intro hW1 hq)
  have HB := Lib.hid hb1
  have HP := Lib.hid (h.call hb1)
  have HOK := Lib.hid ok
  clear hr1 hb1 hW1 hq h hf hL
  by_cases hE : celE 10 4 (sp F j) a = 0
  · rw [if_pos hE, hE] at hfd
    rw [if_pos hE, hE]
    obtain ⟨b, p, k, W, e1, p0, p1, k0, k1, m1, e2, -, -, -⟩ := plc_at HP.out ok hs hE
    obtain ⟨pr, hpr⟩ : ∃ pr, pr = ((sp F j).P (a / 64)).p := ⟨_, rfl⟩
    rw [e1, ← hpr] at hfd
    rw [← e2]
    have HM := Lib.hid m1
    clear e1 e2 m1 hE hs ok hpr
    go_enter Tryz.func14, Tryz.ntmps14
    go_wp2_with (first | (go_at_call 24; refine hsp.mono ?_; rintro e w1 ⟨rfl, rfl⟩) | (go_at_call 28; refine (finder_is _ _).mono ?_; rintro e w1 ⟨rfl, rfl⟩; rw [← HW.out.1, ← HW.out.2]))
    refine hfd.mono ?_
    rintro e w2 ⟨rfl, hb2⟩
    obtain ⟨W3, hW3⟩ : ∃ W3, W3 = w2.alloc (.cells #[.map (some b), .int .i64 p, .int .i64 k, .int .i64 pr] 78) := ⟨_, rfl⟩
    obtain ⟨g, hg⟩ : ∃ g, g = w2.heap.size := ⟨_, rfl⟩
    have hb3 : Below w2.heap.size w2 W3 := by rw [hW3]; exact below_new _ _
    have r3 : Lrow W3 g 78 [.map (some b), .int .i64 p, .int .i64 k, .int .i64 pr] := by rw [hW3, hg]; exact Lrow.new w2 _ [.map (some b), .int .i64 p, .int .i64 k, .int .i64 pr]
    have hpl := pload_is ((HM.out.call hb2).call hb3) (r := pr) p0 p1 k0 k1
    have HB3 := Lib.hid (hb2.trans (hb3.mono hb2.size))
    have c0 := r3.cell 0
    have c1 := r3.cell 1
    have c2 := r3.cell 2
    have c3 := r3.cell 3
    have HW3 := Lib.hid (And.intro hW3 hg)
    clear hfd hsp hb2 hb3 r3 hW3 hg p0 p1 k0 k1
    go_upto_region 8 with (fail)
    rw [← HW3.out.1, ← HW3.out.2]
    go_wp2_with fail
    refine hpl.mono ?_
    rintro e w4 ⟨rfl, hb4⟩
    go_wp2_with fail
    go_ret2
    exact ⟨rfl, HB.out.trans ((HB3.out.trans (hb4.mono HB3.out.size)).mono HB.out.size)⟩
  · rw [if_neg hE] at hfd
    rw [if_neg hE]
    unfold plZ at hfd
    obtain ⟨E, hEE⟩ : ∃ E, E = celE 10 4 (sp F j) a := ⟨_, rfl⟩
    rw [← hEE] at hfd hE ⊢
    have e0 : (E == 0) = false := by simpa using hE
    clear hE hs ok hEE
    go_enter Tryz.func14, Tryz.ntmps14
    go_wp2_with (first | (go_at_call 24; refine hsp.mono ?_; rintro e w1 ⟨rfl, rfl⟩) | (go_at_call 28; refine (finder_is _ _).mono ?_; rintro e w1 ⟨rfl, rfl⟩; rw [← HW.out.1, ← HW.out.2]))
    refine hfd.mono ?_
    rintro e w2 ⟨rfl, hb2⟩
    clear hfd hsp
    go_wp2_with fail
    go_ret2
    exact ⟨rfl, HB.out.trans ((hb2.trans (below_new _ _ |>.mono hb2.size)).mono HB.out.size)⟩
end
end Go.Proofs.YtnppnoabhpkmkaaGreat
/- The program's spaces: a load, a store. -/
namespace Go.Proofs.YtnppnoabhpkmkaaGreat
open Go.RowKit
/-- What a deed answers. -/
def AnsV (B : Nat) (w : World) (T : PfT) (r : Int × Int × Fl) (e : Ending) (w' : World) : Prop := e = .returned (.tuple #[.int .u64 r.2.1, .int .i64 r.1]) ∧ DidV B w T r.2.2 w'
section
variable {w w' : World} {B bx : Nat} {T : PfT} {F F' : Fl} {s s' : PsB} {S S' : Sp} {j : Nat} {a : Int}
set_option maxRecDepth 100000 in
theorem load_no (h : PfAt B w T F) (ok : FlOk F) (hL : F.O.length ≤ 1000) (hs : T.LS[j]? = some (some s)) (hf : Fits a) (k i n hw p t c v : Int) (hE : celE 10 4 (sp F j) a ≠ 0) :
    Calls Tryz.prog 47 #[.pointer (some ⟨s.sb, 0, none⟩), .agg #[.int .i64 k, .int .i64 i, .int .i64 a, .int .i64 n, .int .i64 hw, .int .i64 p, .int .i64 t, .int .i64 c, .int .u64 v]] w fun e w' => e = .returned (.tuple #[.int .u64 0, .int .i64 (celE 10 4 (sp F j) a)]) ∧ Below w.heap.size w w' := by
  obtain ⟨W0, hW0⟩ : ∃ W0, W0 = w.alloc (.cells #[.int .i64 k, .int .i64 i, .int .i64 a, .int .i64 n, .int .i64 hw, .int .i64 p, .int .i64 t, .int .i64 c, .int .u64 v] 25) := ⟨_, rfl⟩
  obtain ⟨bo, hbo⟩ : ∃ bo, bo = w.heap.size := ⟨_, rfl⟩
  have hb0 : Below w.heap.size w W0 := by rw [hW0]; exact below_new _ _
  have hr0 : Lrow W0 bo 25 [.int .i64 k, .int .i64 i, .int .i64 a, .int .i64 n, .int .i64 hw, .int .i64 p, .int .i64 t, .int .i64 c, .int .u64 v] := by rw [hW0, hbo]; exact Lrow.new w _ [.int .i64 k, .int .i64 i, .int .i64 a, .int .i64 n, .int .i64 hw, .int .i64 p, .int .i64 t, .int .i64 c, .int .u64 v]
  obtain ⟨W1, hW1⟩ : ∃ W1, W1 = W0.alloc (.cells #[.pointer (some ⟨s.sb, 0, none⟩)] 64) := ⟨_, rfl⟩
  obtain ⟨q, hq⟩ : ∃ q, q = W0.heap.size := ⟨_, rfl⟩
  have hb1 : Below W0.heap.size W0 W1 := by rw [hW1]; exact below_new _ _
  have hr1 : Lrow W1 q 64 [.pointer (some ⟨s.sb, 0, none⟩)] := by rw [hW1, hq]; exact Lrow.new W0 _ [.pointer (some ⟨s.sb, 0, none⟩)]
  have hb01 : Below w.heap.size w W1 := hb0.trans (hb1.mono hb0.size)
  have hfd := find_any (h.call hb01) ok hL hs hr1 hf
  have a2 : W1.cell? ⟨bo, 2, none⟩ = some (.int .i64 a) := (hr0.call hb1).cell 2
  have HRO := Lib.hid (hr0.call hb1)
  have HW0 := Lib.hid (And.intro hW0 hbo)
  have HW := Lib.hid (And.intro hW1 hq)
  have HB := Lib.hid hb01
  have HH := Lib.hid h
  have HP := Lib.hid (h.call hb01)
  rw [if_neg hE] at hfd
  unfold plZ at hfd
  obtain ⟨E, hEE⟩ : ∃ E, E = celE 10 4 (sp F j) a := ⟨_, rfl⟩
  rw [← hEE] at hfd hE ⊢
  have e0 : (E == 0) = false := by simpa using hE
  clear hE hs ok hEE hr1 hb1 hW1 hq h hf hL hb0 hr0 hb01 hW0 hbo
  go_enter Tryz.func47, Tryz.ntmps47
  go_upto_region 1 with (fail)
  rw [← HW0.out.1, ← HW0.out.2]
  go_wp2_with (go_at_call 28; refine (finder_is _ _).mono ?_; rintro e w1 ⟨rfl, rfl⟩; rw [← HW.out.1, ← HW.out.2])
  refine hfd.mono ?_
  rintro e w2 ⟨rfl, hb2⟩
  clear hfd
  go_wp2_with fail
  go_ret2
  exact ⟨rfl, HB.out.trans ((hb2.trans ((below_new _ _).mono hb2.size)).mono HB.out.size)⟩
set_option maxRecDepth 100000 in
theorem load_rt (h : PfAt B w T F) (ok : FlOk F) (hL : F.O.length ≤ 1000) (hs : T.LS[j]? = some (some s)) (hf : Fits a) (k i n hw p t c v : Int) (hE : celE 10 4 (sp F j) a = 0) (hR : ((sp F j).P (a / 64)).p = 0) :
    Calls Tryz.prog 47 #[.pointer (some ⟨s.sb, 0, none⟩), .agg #[.int .i64 k, .int .i64 i, .int .i64 a, .int .i64 n, .int .i64 hw, .int .i64 p, .int .i64 t, .int .i64 c, .int .u64 v]] w fun e w' => e = .returned (.tuple #[.int .u64 0, .int .i64 10]) ∧ Below w.heap.size w w' := by
  obtain ⟨W0, hW0⟩ : ∃ W0, W0 = w.alloc (.cells #[.int .i64 k, .int .i64 i, .int .i64 a, .int .i64 n, .int .i64 hw, .int .i64 p, .int .i64 t, .int .i64 c, .int .u64 v] 25) := ⟨_, rfl⟩
  obtain ⟨bo, hbo⟩ : ∃ bo, bo = w.heap.size := ⟨_, rfl⟩
  have hb0 : Below w.heap.size w W0 := by rw [hW0]; exact below_new _ _
  have hr0 : Lrow W0 bo 25 [.int .i64 k, .int .i64 i, .int .i64 a, .int .i64 n, .int .i64 hw, .int .i64 p, .int .i64 t, .int .i64 c, .int .u64 v] := by rw [hW0, hbo]; exact Lrow.new w _ [.int .i64 k, .int .i64 i, .int .i64 a, .int .i64 n, .int .i64 hw, .int .i64 p, .int .i64 t, .int .i64 c, .int .u64 v]
  obtain ⟨W1, hW1⟩ : ∃ W1, W1 = W0.alloc (.cells #[.pointer (some ⟨s.sb, 0, none⟩)] 64) := ⟨_, rfl⟩
  obtain ⟨q, hq⟩ : ∃ q, q = W0.heap.size := ⟨_, rfl⟩
  have hb1 : Below W0.heap.size W0 W1 := by rw [hW1]; exact below_new _ _
  have hr1 : Lrow W1 q 64 [.pointer (some ⟨s.sb, 0, none⟩)] := by rw [hW1, hq]; exact Lrow.new W0 _ [.pointer (some ⟨s.sb, 0, none⟩)]
  have hb01 : Below w.heap.size w W1 := hb0.trans (hb1.mono hb0.size)
  have hfd := find_any (h.call hb01) ok hL hs hr1 hf
  have a2 : W1.cell? ⟨bo, 2, none⟩ = some (.int .i64 a) := (hr0.call hb1).cell 2
  have HRO := Lib.hid (hr0.call hb1)
  have HW0 := Lib.hid (And.intro hW0 hbo)
  have HW := Lib.hid (And.intro hW1 hq)
  have HB := Lib.hid hb01
  have HH := Lib.hid h
  have HP := Lib.hid (h.call hb01)
  rw [if_pos hE, hE] at hfd
  obtain ⟨b, pg, wd, W, e1, p0, p1, k0, k1, m1, e2, bl, bm, e3⟩ := plc_at HP.out ok hs hE
  obtain ⟨pr, hpr⟩ : ∃ pr, pr = ((sp F j).P (a / 64)).p := ⟨_, rfl⟩
  rw [e1, ← hpr] at hfd
  rw [← hpr] at hR
  have HM := Lib.hid (And.intro m1 (And.intro p0 (And.intro p1 (And.intro k0 k1))))
  have HV := Lib.hid e2
  have HD := Lib.hid (And.intro bl bm)
  subst hR
  clear e1 e2 e3 m1 hE hs ok hpr hr1 hb1 hW1 hq h hf hL hb0 hr0 hb01 hW0 hbo p0 p1 k0 k1 bl bm
  go_enter Tryz.func47, Tryz.ntmps47
  go_upto_region 1 with (fail)
  rw [← HW0.out.1, ← HW0.out.2]
  go_wp2_with (go_at_call 28; refine (finder_is _ _).mono ?_; rintro e w1 ⟨rfl, rfl⟩; rw [← HW.out.1, ← HW.out.2])
  refine hfd.mono ?_
  rintro e w2 ⟨rfl, hb2⟩
  obtain ⟨W3, hW3⟩ : ∃ W3, W3 = w2.alloc (.cells #[.map (some b), .int .i64 pg, .int .i64 wd, .int .i64 0] 78) := ⟨_, rfl⟩
  obtain ⟨g, hg⟩ : ∃ g, g = w2.heap.size := ⟨_, rfl⟩
  have hb3 : Below w2.heap.size w2 W3 := by rw [hW3]; exact below_new _ _
  have r3 : Lrow W3 g 78 [.map (some b), .int .i64 pg, .int .i64 wd, .int .i64 0] := by rw [hW3, hg]; exact Lrow.new w2 _ [.map (some b), .int .i64 pg, .int .i64 wd, .int .i64 0]
  have hro3 := (HRO.out.call hb2).call hb3
  have HB3 := Lib.hid (hb2.trans (hb3.mono hb2.size))
  have HM3 := Lib.hid ((HM.out.1.call hb2).call hb3)
  have c0 := r3.cell 0
  have c1 := r3.cell 1
  have c2 := r3.cell 2
  have c3 := r3.cell 3
  have o8 := hro3.cell 8
  have HW3 := Lib.hid (And.intro hW3 hg)
  clear hfd hb2 hb3 r3 hW3 hg hro3 a2
  go_upto_region 3 with (fail)
  rw [← HW3.out.1, ← HW3.out.2]
  go_wp2_with fail
  go_ret2
  exact ⟨rfl, HB.out.trans (HB3.out.mono HB.out.size)⟩
set_option maxRecDepth 100000 in
theorem load_ok (h : PfAt B w T F) (ok : FlOk F) (hL : F.O.length ≤ 1000) (hs : T.LS[j]? = some (some s)) (hf : Fits a) (k i n hw p t c v : Int) (hE : celE 10 4 (sp F j) a = 0) (hR : ((sp F j).P (a / 64)).p ≠ 0) :
    Calls Tryz.prog 47 #[.pointer (some ⟨s.sb, 0, none⟩), .agg #[.int .i64 k, .int .i64 i, .int .i64 a, .int .i64 n, .int .i64 hw, .int .i64 p, .int .i64 t, .int .i64 c, .int .u64 v]] w fun e w' => e = .returned (.tuple #[.int .u64 (celV F (sp F j) a), .int .i64 0]) ∧ Below w.heap.size w w' := by
  obtain ⟨W0, hW0⟩ : ∃ W0, W0 = w.alloc (.cells #[.int .i64 k, .int .i64 i, .int .i64 a, .int .i64 n, .int .i64 hw, .int .i64 p, .int .i64 t, .int .i64 c, .int .u64 v] 25) := ⟨_, rfl⟩
  obtain ⟨bo, hbo⟩ : ∃ bo, bo = w.heap.size := ⟨_, rfl⟩
  have hb0 : Below w.heap.size w W0 := by rw [hW0]; exact below_new _ _
  have hr0 : Lrow W0 bo 25 [.int .i64 k, .int .i64 i, .int .i64 a, .int .i64 n, .int .i64 hw, .int .i64 p, .int .i64 t, .int .i64 c, .int .u64 v] := by rw [hW0, hbo]; exact Lrow.new w _ [.int .i64 k, .int .i64 i, .int .i64 a, .int .i64 n, .int .i64 hw, .int .i64 p, .int .i64 t, .int .i64 c, .int .u64 v]
  obtain ⟨W1, hW1⟩ : ∃ W1, W1 = W0.alloc (.cells #[.pointer (some ⟨s.sb, 0, none⟩)] 64) := ⟨_, rfl⟩
  obtain ⟨q, hq⟩ : ∃ q, q = W0.heap.size := ⟨_, rfl⟩
  have hb1 : Below W0.heap.size W0 W1 := by rw [hW1]; exact below_new _ _
  have hr1 : Lrow W1 q 64 [.pointer (some ⟨s.sb, 0, none⟩)] := by rw [hW1, hq]; exact Lrow.new W0 _ [.pointer (some ⟨s.sb, 0, none⟩)]
  have hb01 : Below w.heap.size w W1 := hb0.trans (hb1.mono hb0.size)
  have hfd := find_any (h.call hb01) ok hL hs hr1 hf
  have a2 : W1.cell? ⟨bo, 2, none⟩ = some (.int .i64 a) := (hr0.call hb1).cell 2
  have HRO := Lib.hid (hr0.call hb1)
  have HW0 := Lib.hid (And.intro hW0 hbo)
  have HW := Lib.hid (And.intro hW1 hq)
  have HB := Lib.hid hb01
  have HH := Lib.hid h
  have HP := Lib.hid (h.call hb01)
  rw [if_pos hE, hE] at hfd
  obtain ⟨b, pg, wd, W, e1, p0, p1, k0, k1, m1, e2, bl, bm, e3⟩ := plc_at HP.out ok hs hE
  obtain ⟨pr, hpr⟩ : ∃ pr, pr = ((sp F j).P (a / 64)).p := ⟨_, rfl⟩
  rw [e1, ← hpr] at hfd
  rw [← hpr] at hR
  have HM := Lib.hid (And.intro m1 (And.intro p0 (And.intro p1 (And.intro k0 k1))))
  have HV := Lib.hid e2
  have HD := Lib.hid (And.intro bl bm)
  rw [← e2]
  have r3 : (pr == 0) = false := by simpa using hR
  clear e1 e2 e3 m1 hE hs ok hpr hr1 hb1 hW1 hq h hf hL hb0 hr0 hb01 hW0 hbo p0 p1 k0 k1 bl bm
  go_enter Tryz.func47, Tryz.ntmps47
  go_upto_region 1 with (fail)
  rw [← HW0.out.1, ← HW0.out.2]
  go_wp2_with (go_at_call 28; refine (finder_is _ _).mono ?_; rintro e w1 ⟨rfl, rfl⟩; rw [← HW.out.1, ← HW.out.2])
  refine hfd.mono ?_
  rintro e w2 ⟨rfl, hb2⟩
  obtain ⟨W3, hW3⟩ : ∃ W3, W3 = w2.alloc (.cells #[.map (some b), .int .i64 pg, .int .i64 wd, .int .i64 pr] 78) := ⟨_, rfl⟩
  obtain ⟨g, hg⟩ : ∃ g, g = w2.heap.size := ⟨_, rfl⟩
  have hb3 : Below w2.heap.size w2 W3 := by rw [hW3]; exact below_new _ _
  have r3 : Lrow W3 g 78 [.map (some b), .int .i64 pg, .int .i64 wd, .int .i64 pr] := by rw [hW3, hg]; exact Lrow.new w2 _ [.map (some b), .int .i64 pg, .int .i64 wd, .int .i64 pr]
  have hro3 := (HRO.out.call hb2).call hb3
  have HB3 := Lib.hid (hb2.trans (hb3.mono hb2.size))
  have HM3 := Lib.hid ((HM.out.1.call hb2).call hb3)
  have c0 := r3.cell 0
  have c1 := r3.cell 1
  have c2 := r3.cell 2
  have c3 := r3.cell 3
  have o8 := hro3.cell 8
  have HW3 := Lib.hid (And.intro hW3 hg)
  clear hfd hb2 hb3 r3 hW3 hg hro3 a2
  go_upto_region 3 with (fail)
  rw [← HW3.out.1, ← HW3.out.2]
  have hpl := pload_is HM3.out (r := pr) HM.out.2.1 HM.out.2.2.1 HM.out.2.2.2.1 HM.out.2.2.2.2
  go_wp2_with fail
  refine hpl.mono ?_
  rintro e w4 ⟨rfl, hb4⟩
  clear hpl
  go_wp2_with fail
  go_ret2
  exact ⟨rfl, HB.out.trans ((HB3.out.trans (hb4.mono HB3.out.size)).mono HB.out.size)⟩
set_option maxRecDepth 100000 in
theorem store_no (h : PfAt B w T F) (ok : FlOk F) (hL : F.O.length ≤ 1000) (hs : T.LS[j]? = some (some s)) (hf : Fits a) (k i n hw p t c v : Int) (hE : celE 10 4 (sp F j) a ≠ 0) :
    Calls Tryz.prog 48 #[.pointer (some ⟨s.sb, 0, none⟩), .agg #[.int .i64 k, .int .i64 i, .int .i64 a, .int .i64 n, .int .i64 hw, .int .i64 p, .int .i64 t, .int .i64 c, .int .u64 v]] w fun e w' => e = .returned (.tuple #[.int .u64 0, .int .i64 (celE 10 4 (sp F j) a)]) ∧ Below w.heap.size w w' := by
  obtain ⟨W0, hW0⟩ : ∃ W0, W0 = w.alloc (.cells #[.int .i64 k, .int .i64 i, .int .i64 a, .int .i64 n, .int .i64 hw, .int .i64 p, .int .i64 t, .int .i64 c, .int .u64 v] 25) := ⟨_, rfl⟩
  obtain ⟨bo, hbo⟩ : ∃ bo, bo = w.heap.size := ⟨_, rfl⟩
  have hb0 : Below w.heap.size w W0 := by rw [hW0]; exact below_new _ _
  have hr0 : Lrow W0 bo 25 [.int .i64 k, .int .i64 i, .int .i64 a, .int .i64 n, .int .i64 hw, .int .i64 p, .int .i64 t, .int .i64 c, .int .u64 v] := by rw [hW0, hbo]; exact Lrow.new w _ [.int .i64 k, .int .i64 i, .int .i64 a, .int .i64 n, .int .i64 hw, .int .i64 p, .int .i64 t, .int .i64 c, .int .u64 v]
  obtain ⟨W1, hW1⟩ : ∃ W1, W1 = W0.alloc (.cells #[.pointer (some ⟨s.sb, 0, none⟩)] 64) := ⟨_, rfl⟩
  obtain ⟨q, hq⟩ : ∃ q, q = W0.heap.size := ⟨_, rfl⟩
  have hb1 : Below W0.heap.size W0 W1 := by rw [hW1]; exact below_new _ _
  have hr1 : Lrow W1 q 64 [.pointer (some ⟨s.sb, 0, none⟩)] := by rw [hW1, hq]; exact Lrow.new W0 _ [.pointer (some ⟨s.sb, 0, none⟩)]
  have hb01 : Below w.heap.size w W1 := hb0.trans (hb1.mono hb0.size)
  have hfd := find_any (h.call hb01) ok hL hs hr1 hf
  have a2 : W1.cell? ⟨bo, 2, none⟩ = some (.int .i64 a) := (hr0.call hb1).cell 2
  have HRO := Lib.hid (hr0.call hb1)
  have HW0 := Lib.hid (And.intro hW0 hbo)
  have HW := Lib.hid (And.intro hW1 hq)
  have HB := Lib.hid hb01
  have HH := Lib.hid h
  have HP := Lib.hid (h.call hb01)
  rw [if_neg hE] at hfd
  unfold plZ at hfd
  obtain ⟨E, hEE⟩ : ∃ E, E = celE 10 4 (sp F j) a := ⟨_, rfl⟩
  rw [← hEE] at hfd hE ⊢
  have e0 : (E == 0) = false := by simpa using hE
  clear hE hs ok hEE hr1 hb1 hW1 hq h hf hL hb0 hr0 hb01 hW0 hbo
  go_enter Tryz.func48, Tryz.ntmps48
  go_upto_region 1 with (fail)
  rw [← HW0.out.1, ← HW0.out.2]
  go_wp2_with (go_at_call 28; refine (finder_is _ _).mono ?_; rintro e w1 ⟨rfl, rfl⟩; rw [← HW.out.1, ← HW.out.2])
  refine hfd.mono ?_
  rintro e w2 ⟨rfl, hb2⟩
  clear hfd
  go_wp2_with fail
  go_ret2
  exact ⟨rfl, HB.out.trans ((hb2.trans ((below_new _ _).mono hb2.size)).mono HB.out.size)⟩
set_option maxRecDepth 100000 in
theorem store_rt (h : PfAt B w T F) (ok : FlOk F) (hL : F.O.length ≤ 1000) (hs : T.LS[j]? = some (some s)) (hf : Fits a) (k i n hw p t c v : Int) (hE : celE 10 4 (sp F j) a = 0) (hR : ((sp F j).P (a / 64)).p ≠ 3) :
    Calls Tryz.prog 48 #[.pointer (some ⟨s.sb, 0, none⟩), .agg #[.int .i64 k, .int .i64 i, .int .i64 a, .int .i64 n, .int .i64 hw, .int .i64 p, .int .i64 t, .int .i64 c, .int .u64 v]] w fun e w' => e = .returned (.tuple #[.int .u64 0, .int .i64 10]) ∧ Below w.heap.size w w' := by
  obtain ⟨W0, hW0⟩ : ∃ W0, W0 = w.alloc (.cells #[.int .i64 k, .int .i64 i, .int .i64 a, .int .i64 n, .int .i64 hw, .int .i64 p, .int .i64 t, .int .i64 c, .int .u64 v] 25) := ⟨_, rfl⟩
  obtain ⟨bo, hbo⟩ : ∃ bo, bo = w.heap.size := ⟨_, rfl⟩
  have hb0 : Below w.heap.size w W0 := by rw [hW0]; exact below_new _ _
  have hr0 : Lrow W0 bo 25 [.int .i64 k, .int .i64 i, .int .i64 a, .int .i64 n, .int .i64 hw, .int .i64 p, .int .i64 t, .int .i64 c, .int .u64 v] := by rw [hW0, hbo]; exact Lrow.new w _ [.int .i64 k, .int .i64 i, .int .i64 a, .int .i64 n, .int .i64 hw, .int .i64 p, .int .i64 t, .int .i64 c, .int .u64 v]
  obtain ⟨W1, hW1⟩ : ∃ W1, W1 = W0.alloc (.cells #[.pointer (some ⟨s.sb, 0, none⟩)] 64) := ⟨_, rfl⟩
  obtain ⟨q, hq⟩ : ∃ q, q = W0.heap.size := ⟨_, rfl⟩
  have hb1 : Below W0.heap.size W0 W1 := by rw [hW1]; exact below_new _ _
  have hr1 : Lrow W1 q 64 [.pointer (some ⟨s.sb, 0, none⟩)] := by rw [hW1, hq]; exact Lrow.new W0 _ [.pointer (some ⟨s.sb, 0, none⟩)]
  have hb01 : Below w.heap.size w W1 := hb0.trans (hb1.mono hb0.size)
  have hfd := find_any (h.call hb01) ok hL hs hr1 hf
  have a2 : W1.cell? ⟨bo, 2, none⟩ = some (.int .i64 a) := (hr0.call hb1).cell 2
  have HRO := Lib.hid (hr0.call hb1)
  have HW0 := Lib.hid (And.intro hW0 hbo)
  have HW := Lib.hid (And.intro hW1 hq)
  have HB := Lib.hid hb01
  have HH := Lib.hid h
  have HP := Lib.hid (h.call hb01)
  rw [if_pos hE, hE] at hfd
  obtain ⟨b, pg, wd, W, e1, p0, p1, k0, k1, m1, e2, bl, bm, e3⟩ := plc_at HP.out ok hs hE
  obtain ⟨pr, hpr⟩ : ∃ pr, pr = ((sp F j).P (a / 64)).p := ⟨_, rfl⟩
  rw [e1, ← hpr] at hfd
  rw [← hpr] at hR
  have HM := Lib.hid (And.intro m1 (And.intro p0 (And.intro p1 (And.intro k0 k1))))
  have HV := Lib.hid e2
  have HD := Lib.hid (And.intro bl bm)
  have r3 : (pr == 3) = false := by simpa using hR
  clear e1 e2 e3 m1 hE hs ok hpr hr1 hb1 hW1 hq h hf hL hb0 hr0 hb01 hW0 hbo p0 p1 k0 k1 bl bm
  go_enter Tryz.func48, Tryz.ntmps48
  go_upto_region 1 with (fail)
  rw [← HW0.out.1, ← HW0.out.2]
  go_wp2_with (go_at_call 28; refine (finder_is _ _).mono ?_; rintro e w1 ⟨rfl, rfl⟩; rw [← HW.out.1, ← HW.out.2])
  refine hfd.mono ?_
  rintro e w2 ⟨rfl, hb2⟩
  obtain ⟨W3, hW3⟩ : ∃ W3, W3 = w2.alloc (.cells #[.map (some b), .int .i64 pg, .int .i64 wd, .int .i64 pr] 78) := ⟨_, rfl⟩
  obtain ⟨g, hg⟩ : ∃ g, g = w2.heap.size := ⟨_, rfl⟩
  have hb3 : Below w2.heap.size w2 W3 := by rw [hW3]; exact below_new _ _
  have r3 : Lrow W3 g 78 [.map (some b), .int .i64 pg, .int .i64 wd, .int .i64 pr] := by rw [hW3, hg]; exact Lrow.new w2 _ [.map (some b), .int .i64 pg, .int .i64 wd, .int .i64 pr]
  have hro3 := (HRO.out.call hb2).call hb3
  have HB3 := Lib.hid (hb2.trans (hb3.mono hb2.size))
  have HM3 := Lib.hid ((HM.out.1.call hb2).call hb3)
  have c0 := r3.cell 0
  have c1 := r3.cell 1
  have c2 := r3.cell 2
  have c3 := r3.cell 3
  have o8 := hro3.cell 8
  have HW3 := Lib.hid (And.intro hW3 hg)
  clear hfd hb2 hb3 r3 hW3 hg hro3 a2
  go_upto_region 3 with (fail)
  rw [← HW3.out.1, ← HW3.out.2]
  go_wp2_with fail
  go_ret2
  exact ⟨rfl, HB.out.trans (HB3.out.mono HB.out.size)⟩
set_option maxRecDepth 100000 in
theorem store_ok (h : PfAt B w T F) (ok : FlOk F) (hL : F.O.length ≤ 1000) (hs : T.LS[j]? = some (some s)) (hf : Fits a) (k i n hw p t c v : Int) (hE : celE 10 4 (sp F j) a = 0) (hR : ((sp F j).P (a / 64)).p = 3) :
    Calls Tryz.prog 48 #[.pointer (some ⟨s.sb, 0, none⟩), .agg #[.int .i64 k, .int .i64 i, .int .i64 a, .int .i64 n, .int .i64 hw, .int .i64 p, .int .i64 t, .int .i64 c, .int .u64 v]] w fun e w' => e = .returned (.tuple #[.int .u64 0, .int .i64 0]) ∧ DidV B w T (celS F j a v) w' := by
  obtain ⟨W0, hW0⟩ : ∃ W0, W0 = w.alloc (.cells #[.int .i64 k, .int .i64 i, .int .i64 a, .int .i64 n, .int .i64 hw, .int .i64 p, .int .i64 t, .int .i64 c, .int .u64 v] 25) := ⟨_, rfl⟩
  obtain ⟨bo, hbo⟩ : ∃ bo, bo = w.heap.size := ⟨_, rfl⟩
  have hb0 : Below w.heap.size w W0 := by rw [hW0]; exact below_new _ _
  have hr0 : Lrow W0 bo 25 [.int .i64 k, .int .i64 i, .int .i64 a, .int .i64 n, .int .i64 hw, .int .i64 p, .int .i64 t, .int .i64 c, .int .u64 v] := by rw [hW0, hbo]; exact Lrow.new w _ [.int .i64 k, .int .i64 i, .int .i64 a, .int .i64 n, .int .i64 hw, .int .i64 p, .int .i64 t, .int .i64 c, .int .u64 v]
  obtain ⟨W1, hW1⟩ : ∃ W1, W1 = W0.alloc (.cells #[.pointer (some ⟨s.sb, 0, none⟩)] 64) := ⟨_, rfl⟩
  obtain ⟨q, hq⟩ : ∃ q, q = W0.heap.size := ⟨_, rfl⟩
  have hb1 : Below W0.heap.size W0 W1 := by rw [hW1]; exact below_new _ _
  have hr1 : Lrow W1 q 64 [.pointer (some ⟨s.sb, 0, none⟩)] := by rw [hW1, hq]; exact Lrow.new W0 _ [.pointer (some ⟨s.sb, 0, none⟩)]
  have hb01 : Below w.heap.size w W1 := hb0.trans (hb1.mono hb0.size)
  have hfd := find_any (h.call hb01) ok hL hs hr1 hf
  have a2 : W1.cell? ⟨bo, 2, none⟩ = some (.int .i64 a) := (hr0.call hb1).cell 2
  have HRO := Lib.hid (hr0.call hb1)
  have HW0 := Lib.hid (And.intro hW0 hbo)
  have HW := Lib.hid (And.intro hW1 hq)
  have HB := Lib.hid hb01
  have HH := Lib.hid h
  have HP := Lib.hid (h.call hb01)
  rw [if_pos hE, hE] at hfd
  obtain ⟨b, pg, wd, W, e1, p0, p1, k0, k1, m1, e2, bl, bm, e3⟩ := plc_at HP.out ok hs hE
  obtain ⟨pr, hpr⟩ : ∃ pr, pr = ((sp F j).P (a / 64)).p := ⟨_, rfl⟩
  rw [e1, ← hpr] at hfd
  rw [← hpr] at hR
  have HM := Lib.hid (And.intro m1 (And.intro p0 (And.intro p1 (And.intro k0 k1))))
  have HV := Lib.hid e2
  have HD := Lib.hid (And.intro bl bm)
  have HS := Lib.hid e3
  subst hR
  clear e1 e2 e3 m1 hE hs ok hpr hr1 hb1 hW1 hq h hf hL hb0 hr0 hb01 hW0 hbo p0 p1 k0 k1 bl bm
  go_enter Tryz.func48, Tryz.ntmps48
  go_upto_region 1 with (fail)
  rw [← HW0.out.1, ← HW0.out.2]
  go_wp2_with (go_at_call 28; refine (finder_is _ _).mono ?_; rintro e w1 ⟨rfl, rfl⟩; rw [← HW.out.1, ← HW.out.2])
  refine hfd.mono ?_
  rintro e w2 ⟨rfl, hb2⟩
  obtain ⟨W3, hW3⟩ : ∃ W3, W3 = w2.alloc (.cells #[.map (some b), .int .i64 pg, .int .i64 wd, .int .i64 3] 78) := ⟨_, rfl⟩
  obtain ⟨g, hg⟩ : ∃ g, g = w2.heap.size := ⟨_, rfl⟩
  have hb3 : Below w2.heap.size w2 W3 := by rw [hW3]; exact below_new _ _
  have r3 : Lrow W3 g 78 [.map (some b), .int .i64 pg, .int .i64 wd, .int .i64 3] := by rw [hW3, hg]; exact Lrow.new w2 _ [.map (some b), .int .i64 pg, .int .i64 wd, .int .i64 3]
  have hro3 := (HRO.out.call hb2).call hb3
  have HB3 := Lib.hid (hb2.trans (hb3.mono hb2.size))
  have HM3 := Lib.hid ((HM.out.1.call hb2).call hb3)
  have c0 := r3.cell 0
  have c1 := r3.cell 1
  have c2 := r3.cell 2
  have c3 := r3.cell 3
  have o8 := hro3.cell 8
  have HW3 := Lib.hid (And.intro hW3 hg)
  clear hfd hb2 hb3 r3 hW3 hg hro3 a2
  go_upto_region 3 with (fail)
  rw [← HW3.out.1, ← HW3.out.2]
  have hpl := pstore_is (r := 3) HM3.out v HM.out.2.1 HM.out.2.2.1 HM.out.2.2.2.1 HM.out.2.2.2.2
  go_wp2_with fail
  refine hpl.mono ?_
  rintro e w4 ⟨rfl, hg4, hm4⟩
  have HG := Lib.hid (And.intro hg4 hm4)
  clear hpl hg4 hm4
  go_wp2_with fail
  go_ret2
  exact ⟨rfl, (HS.out w4 v (grown_trans1 (bel_grown HB3.out _) HG.out.1) HG.out.2).pre HB.out⟩
end
end Go.Proofs.YtnppnoabhpkmkaaGreat
