/- Tables that are made: New; a root that is made: Root. -/
import Derived.Test.YtpcpcgbejinlmaaMk22
import Derived.Test.YtpcpcgbejinlmaaMk23
import Derived.Test.YtpcpcgbejinlmaaMk24
namespace Go.Proofs.Ytpcpcgbejinlmaa
open Go.RowKit
set_option maxHeartbeats 800000 in
theorem tnew_any (s : Seat) (w : World) (hm : s.m = w.heap.size) (hx : s.x = w.heap.size + 1) : Calls Try.prog 20 #[.pointer (some ⟨s.a, 0, none⟩), bagV s] w fun e w' => e = .returned (.tuple #[.pointer (some ⟨s.x, 0, none⟩), .int .i64 0]) ∧
    Row w' s.x 90 [.pointer (some ⟨s.a, 0, none⟩), bagV s, .map (some s.m)] ∧ SetIs w' s.m [] ∧ Below w.heap.size w w' ∧ w'.heap.size = w.heap.size + 2 := by
  have hmm := @run_makeMap Try.prog
  unfold bagV
  go_enter Try.func20, Try.ntmps20
  go_wp2
  go_ret2
  have h1 := SetIs.new w
  have h2 := Row.new (w.alloc (.map #[] 0)) 90 [.pointer (some ⟨s.a, 0, none⟩), .iface 36 (.pointer (some ⟨s.y, 0, none⟩)), .map (some w.heap.size)]
  refine ⟨by show Ending.returned (.tuple #[.pointer (some ⟨w.heap.size + 1, 0, none⟩), .int .i64 0]) = _; rw [hx], ?_, ?_, ((Below.refl _ _).alloc (Nat.le_refl _) _).alloc (by simp) _, by simp⟩
  · rw [hx, hm]; simpa using h2
  · rw [hm]; exact h1.heap (Below.heap_alloc _ _ _ h1.lt)
section
variable {w : World} {s : Seat} {v : Value} {ws L R : List Int}
theorem tk_one (L : List Int) (f : Int) : tk (L ++ [f]) 1 = [f] := by simp [tk]
theorem Tab.setTurned {w' : World} {R' : List Int} (h : Tab w s v ws L R) (h' : SetIs w' s.m R') (g : w.grownBy w' (some s.m)) : Tab w' s v ws L R' := by
  have hne : ∀ {b : Nat} {t : TypeId} {c : List Value}, Row w b t c → some b ≠ some s.m := fun r e => by injection e with e; exact h.set.apart r e
  refine ⟨h.ram.grown g (hne h.ram.top) (hne h.ram.row), ⟨h.bag.top.grown g (hne h.bag.top), ?_, h.bag.len⟩, h.top.grown g (hne h.top), h', h.yC, Nat.le_trans h.Cw g.size⟩
  refine own_keep h.bag.row fun b hb => ?_
  obtain ⟨-, hl, cur, hc⟩ := h.own hb
  exact g.block b hl (fun e => by injection e with e; exact h.set.apart hc e)
set_option maxRecDepth 100000 in
set_option maxHeartbeats 800000 in
theorem root_any {f : Int} (h : Tab w s v ws (L ++ [f]) R) (hf : ∀ x ∈ L ++ [f], 0 ≤ x ∧ x < 512) (hL : L.length < 1000) (hR : f ∉ R) (hRl : R.length < 1000) : Calls Try.prog 21 #[.pointer (some ⟨s.x, 0, none⟩)] w fun e w' =>
    e = .returned (.tuple #[.int .i64 f, .int .i64 0]) ∧ ∃ v', Tab w' s v' (zeL ws f 1) L (f :: R) ∧ Mv s v w v' w' := by
  have hget := get_any h hf (by simp; omega) 1 (by omega)
  have hff : Fits f := by have := hf f (by simp); unfold Fits; omega
  clear h hf
  go_enter Try.func21, Try.ntmps21
  go_wp2_with fail
  refine hget.mono ?_
  rintro e w1 (⟨hn, -⟩ | ⟨-, v', A, c, rfl, hT, hM, hl⟩)
  · simp at hn
  · rw [tk_one] at hT hl
    simp only [List.length_append, List.length_singleton, Nat.add_sub_cancel, List.take_left'] at hT
    have hT' : Tab w1 s v' (zeL ws f 1) L R := hT
    obtain ⟨a, rfl, hab, hc⟩ := hl.cell (j := 0) (by omega)
    have hc' : w1.cell? a = some (.int .i64 f) := by simpa [Addr.add] using hc
    obtain ⟨-, -, x2⟩ := hT'.cells
    have hset : SetIs w1.drew s.m R := hT'.set
    obtain ⟨w4, hr4, g4, s4⟩ := hset.put (by omega) hff hR
    have hab' : s.m ≠ a.block := fun e => hl.off (by omega) a rfl (Or.inr (Or.inr (Or.inl e.symm)))
    have hc4 : w4.cell? a = some (.int .i64 f) := by
      rw [← hc']
      exact World.cell?_of_block (g4.block a.block hab (fun e => by injection e with e; exact hab' e.symm))
    have HT := Lib.hid hT'
    have HM := Lib.hid hM
    have HG4 := Lib.hid g4
    have HS4 := Lib.hid s4
    clear hT hT' hM hl hc g4 s4 hget hset
    go_wp2_with fail
    go_still_tail 8, (by kernel_rfl)
    change wpList _ _ _ _ _ w1.drew
    go_wp2_with fail
    go_ret2
    have G4 : w1.grownBy w4 (some s.m) := ⟨HG4.out.os, HG4.out.tape, HG4.out.output, HG4.out.size, HG4.out.block⟩
    exact ⟨rfl, v', HT.out.setTurned HS4.out G4, HM.out.trans (Mv.turned G4 (Or.inr (Or.inr (Or.inl rfl))))⟩
end
end Go.Proofs.Ytpcpcgbejinlmaa
/- A leaf that is parted: the contract of Split. -/
namespace Go.Proofs.Ytpcpcgbejinlmaa
open Go.RowKit
theorem wk_leaf (ws : List Int) (p : Int) : ∀ (l : Nat) (t : Int), (wk ws p l t).er = 0 → say ((ws.length : Int) / 8) ((wk ws p l t).lv : Int) (wk ws p l t).x = 3 ∧ (wk ws p l t).x = wd ws (lastT (wk ws p l t)) (dg p (wk ws p l t).lv) := by
  intro l
  induction l with
  | zero =>
    intro t h
    have hs : wk ws p 0 t = fin (say ((ws.length : Int) / 8) 0 (wd ws t (dg p 0))) 0 (wd ws t (dg p 0)) t (dg p 0) := rfl
    rw [hs] at h ⊢
    unfold fin at h ⊢
    split
    · rename_i h1; rw [if_pos h1] at h; simp at h
    · rename_i h1
      rw [if_neg h1] at h
      split
      · rename_i h3; exact ⟨h3, rfl⟩
      · rename_i h3; rw [if_neg h3] at h; simp at h
  | succ l ih =>
    intro t h
    by_cases hs : say ((ws.length : Int) / 8) ((l + 1 : Nat) : Int) (wd ws t (dg p (l + 1))) = 2
    · rw [wk_on hs] at h ⊢
      have h5 : (wk ws p l (unF (wd ws t (dg p (l + 1))))).er ≠ 5 := by
        intro e; unfold app at h; rw [if_pos e] at h; omega
      have he : app [t] (wk ws p l (unF (wd ws t (dg p (l + 1))))) = { wk ws p l (unF (wd ws t (dg p (l + 1)))) with ts := [t] ++ (wk ws p l (unF (wd ws t (dg p (l + 1))))).ts } := by unfold app; rw [if_neg h5]
      rw [he] at h ⊢
      have := ih _ h
      refine ⟨this.1, ?_⟩
      obtain ⟨ts, hts⟩ := (wk_fine ws p l (unF (wd ws t (dg p (l + 1))))).head h5
      have hl : lastT { wk ws p l (unF (wd ws t (dg p (l + 1)))) with ts := [t] ++ (wk ws p l (unF (wd ws t (dg p (l + 1))))).ts } = lastT (wk ws p l (unF (wd ws t (dg p (l + 1))))) := by
        unfold lastT
        simp [hts]
      rw [hl]
      exact this.2
    · rw [wk_stop hs] at h ⊢
      unfold fin at h ⊢
      split
      · rename_i h1; rw [if_pos h1] at h; simp at h
      · rename_i h1
        rw [if_neg h1] at h
        split
        · rename_i h3; exact ⟨h3, rfl⟩
        · rename_i h3; rw [if_neg h3] at h; simp at h
theorem fol_leaf {ws : List Int} {root p : Int} (h : (fol ws root p).er = 0) : say ((ws.length : Int) / 8) ((fol ws root p).lv : Int) (fol ws root p).x = 3 ∧ (fol ws root p).x = wd ws (lastT (fol ws root p)) (dg p (fol ws root p).lv) := by
  unfold fol at h ⊢
  split
  · rename_i hc
    rw [if_pos hc] at h
    exact wk_leaf ws p 3 root h
  · rename_i hc
    rw [if_neg hc] at h
    simp at h
def enC (e : En) : Int := chkI e.f e.p e.w e.h e.k e.u e.d
def enV (e : En) : Int := packI e.f e.p e.w e.h e.k e.u e.d
def prL (g : Nat → En) (t : Int) (ws : List Int) : Nat → List Int
  | 0 => ws
  | k + 1 => ptL (prL g t ws k) t (k : Int) (enC (g k)) (enV (g k))
def prG (r : Fd) : Nat → En := pt (unF r.x) (unB r.x 0) (unB r.x 1) (unB r.x 9) (unB r.x 5) (unB r.x 6) (r.lv : Int)
def spE (ws L R : List Int) (r p : Int) : Int := if rtE R r = 0 then (if (fol ws r p).er = 0 then (if (fol ws r p).lv = 0 then 2 else if L = [] then 8 else 0) else (fol ws r p).er) else rtE R r
def spW (ws L : List Int) (r p : Int) : List Int := ptL (prL (prG (fol ws r p)) (L.getLastD 0) (zeL ws (L.getLastD 0) 1) 8) (lastT (fol ws r p)) (dg p (fol ws r p).lv) 0 (lnk (L.getLastD 0))
section
variable {w : World} {s : Seat} {v : Value} {ws L R : List Int}
def Splitted (w : World) (s : Seat) (v : Value) (ws L R : List Int) (r p : Int) (e : Ending) (w' : World) : Prop :=
  e = .returned (.int .i64 (spE ws L R r p)) ∧ ∃ v', (spE ws L R r p ≠ 0 → Tab w' s v' ws L R) ∧ (spE ws L R r p = 0 → Tab w' s v' (spW ws L r p) L.dropLast R) ∧ Mv s v w v' w'
theorem keep5 {v v' : World} {b q : Nat} {p0 p1 p2 : Addr} {y0 y1 z0 z1 z2 : Value}
    (h : v.cell? ⟨q, 9, none⟩ = some y0 ∧ v.cell? ⟨q, 10, none⟩ = some y1 ∧ v.cell? p0 = some z0 ∧ v.cell? p1 = some z1 ∧ v.cell? p2 = some z2) (hg : v.grownBy v' (some b)) (hq : q ≠ b) (h0 : p0.block ≠ b) (h1 : p1.block ≠ b) (h2 : p2.block ≠ b) :
    v'.cell? ⟨q, 9, none⟩ = some y0 ∧ v'.cell? ⟨q, 10, none⟩ = some y1 ∧ v'.cell? p0 = some z0 ∧ v'.cell? p1 = some z1 ∧ v'.cell? p2 = some z2 :=
  ⟨keepC h.1 hg hq, keepC h.2.1 hg hq, keepA h.2.2.1 hg h0, keepA h.2.2.2.1 hg h1, keepA h.2.2.2.2 hg h2⟩
set_option maxRecDepth 100000 in
set_option maxHeartbeats 800000 in
theorem tsplit_any (h : Tab w s v ws L R) (hfr : ∀ f ∈ L, 0 ≤ f ∧ f < 512) (hLl : L.length ≤ 1000) (r p : Int) (hr : Fits r) : Calls Try.prog 10 #[.pointer (some ⟨s.x, 0, none⟩), .int .i64 r, .int .i64 p] w (Splitted w s v ws L R r p) := by
  have hcr := checkRoot_any h r hr
  unfold Splitted spE spW
  have H := Lib.hid h
  have HFR := Lib.hid hfr
  clear h hfr
  by_cases h0 : rtE R r = 0
  · rw [h0] at hcr ⊢
    simp only [if_true]
    by_cases he : (fol ws r p).er = 0
    · simp only [he, if_true]
      by_cases hl0 : (fol ws r p).lv = 0
      · simp only [hl0, if_true]
        have hfi := fun w1 (H1 : Tab w1 s v ws L R) => find_ok H1 r p he
        unfold Stand at hfi
        obtain ⟨rr, hrr⟩ : ∃ rr, rr = fol ws r p := ⟨_, rfl⟩
        rw [← hrr] at hfi hl0 he
        have hlv : lfV rr = 0 := by simp [lfV, he, hl0]
        rw [hlv] at hfi
        obtain ⟨x0, ex0⟩ : ∃ y, y = lfF rr := ⟨_, rfl⟩
        rw [← ex0] at hfi
        clear ex0
        obtain ⟨z0, ez0⟩ : ∃ y, y = lfB rr 0 := ⟨_, rfl⟩
        rw [← ez0] at hfi
        clear ez0
        obtain ⟨z1, ez1⟩ : ∃ y, y = lfB rr 1 := ⟨_, rfl⟩
        rw [← ez1] at hfi
        clear ez1
        obtain ⟨z7, ez7⟩ : ∃ y, y = lfB rr 7 := ⟨_, rfl⟩
        rw [← ez7] at hfi
        clear ez7
        obtain ⟨z9, ez9⟩ : ∃ y, y = lfB rr 9 := ⟨_, rfl⟩
        rw [← ez9] at hfi
        clear ez9
        obtain ⟨z5, ez5⟩ : ∃ y, y = lfB rr 5 := ⟨_, rfl⟩
        rw [← ez5] at hfi
        clear ez5
        obtain ⟨z6, ez6⟩ : ∃ y, y = lfB rr 6 := ⟨_, rfl⟩
        rw [← ez6] at hfi
        clear ez6
        obtain ⟨zp, ezp⟩ : ∃ y, y = lfP rr p := ⟨_, rfl⟩
        rw [← ezp] at hfi
        clear ezp
        clear hrr hl0 he hlv
        go_enter Try.func10, Try.ntmps10
        go_wp2_with fail
        refine hcr.mono ?_
        rintro e w1 ⟨rfl, hb1⟩
        have H1 := Lib.hid (H.out.call hb1)
        have B1 := Lib.hid hb1
        clear hcr hb1
        go_wp2_with fail
        refine (hfi _ H1.out).mono ?_
        rintro e w2 ⟨A, m, c, A', m', c', rfl, -, -, hb2, -, -⟩
        have H2 := Lib.hid (H1.out.call hb2)
        have B2 := Lib.hid (B1.out.trans (hb2.mono B1.out.size))
        clear hfi hb2
        go_wp2_with fail
        go_ret
        have b4 := below_new w2 74 [.int .i64 x0, .bool z0, .bool z1, .bool z7, .bool z9, .bool z5, .bool z6, .int .i64 0, .int .i64 zp, .slice A m c, .slice A' m' c']
        exact ⟨rfl, v, fun _ => H2.out.call b4, fun e => by omega, Mv.of_below (B2.out.trans (b4.mono B2.out.size))⟩
      · simp only [if_neg hl0]
        obtain ⟨hsay, -⟩ := fol_leaf he
        obtain ⟨hlv3, hln, hpg⟩ := fol_ok he
        have hln3 := say_leaf hsay
        have hsl := slot_last hpg hlv3
        have hfi := fun w1 (H1 : Tab w1 s v ws L R) => find_ok H1 r p he
        unfold Stand at hfi
        obtain ⟨rr, hrr⟩ : ∃ rr, rr = fol ws r p := ⟨_, rfl⟩
        rw [← hrr] at hfi hl0 he hlv3 hln hln3 hsl ⊢
        have hlv : lfV rr = (rr.lv : Int) := by simp [lfV, he]
        have hff := un_frame rr.x
        have hf0 : lfF rr = unF rr.x := by simp [lfF, he]
        have hgb : ∀ b, lfB rr b = unB rr.x b := fun b => by simp [lfB, he]
        have hl12 : (rr.lv : Int) = 1 ∨ (rr.lv : Int) = 2 := by omega
        have hpa := fun w1 => parts_any (w := w1) (unF rr.x) (unB rr.x 0) (unB rr.x 1) (unB rr.x 7) (unB rr.x 9) (unB rr.x 5) (unB rr.x 6) (rr.lv : Int) (lfP rr p) hl12 hff.1 hff.2
        rw [← hlv, ← hf0, ← hgb, ← hgb, ← hgb, ← hgb, ← hgb, ← hgb] at hpa
        have hG : pt (lfF rr) (lfB rr 0) (lfB rr 1) (lfB rr 9) (lfB rr 5) (lfB rr 6) (lfV rr) = prG rr := by unfold prG; rw [hf0, hgb, hgb, hgb, hgb, hgb, hlv]
        rw [hG] at hpa
        have hzv : lfV rr ≠ 0 := by rw [hlv]; omega
        obtain ⟨x0, ex0⟩ : ∃ y, y = lfF rr := ⟨_, rfl⟩
        rw [← ex0] at hfi hpa
        clear ex0
        obtain ⟨z0, ez0⟩ : ∃ y, y = lfB rr 0 := ⟨_, rfl⟩
        rw [← ez0] at hfi hpa
        clear ez0
        obtain ⟨z1, ez1⟩ : ∃ y, y = lfB rr 1 := ⟨_, rfl⟩
        rw [← ez1] at hfi hpa
        clear ez1
        obtain ⟨z7, ez7⟩ : ∃ y, y = lfB rr 7 := ⟨_, rfl⟩
        rw [← ez7] at hfi hpa
        clear ez7
        obtain ⟨z9, ez9⟩ : ∃ y, y = lfB rr 9 := ⟨_, rfl⟩
        rw [← ez9] at hfi hpa
        clear ez9
        obtain ⟨z5, ez5⟩ : ∃ y, y = lfB rr 5 := ⟨_, rfl⟩
        rw [← ez5] at hfi hpa
        clear ez5
        obtain ⟨z6, ez6⟩ : ∃ y, y = lfB rr 6 := ⟨_, rfl⟩
        rw [← ez6] at hfi hpa
        clear ez6
        obtain ⟨zv, ezv⟩ : ∃ y, y = lfV rr := ⟨_, rfl⟩
        rw [← ezv] at hfi hpa hzv
        clear ezv
        obtain ⟨zp, ezp⟩ : ∃ y, y = lfP rr p := ⟨_, rfl⟩
        rw [← ezp] at hfi hpa
        clear ezp
        obtain ⟨G, eG⟩ : ∃ G, G = prG rr := ⟨_, rfl⟩
        rw [← eG] at hpa ⊢
        have hz0 : (zv == 0) = false := by simpa using hzv
        have HRR := Lib.hid (And.intro eG hsl)
        have HLN := Lib.hid (And.intro hln hlv3)
        have hd4 : (dgL p).length = 4 := by simp [dgL, hpg]
        have HD4 := Lib.hid hd4
        clear hrr hl0 he hlv hff hf0 hgb hl12 hG hzv hsay hln3 hsl hpg hlv3 hln eG hd4
        rcases List.eq_nil_or_concat L with hL | ⟨L0, f, hL⟩
        · rw [if_pos hL]
          go_enter Try.func10, Try.ntmps10
          go_wp2_with fail
          refine hcr.mono ?_
          rintro e w1 ⟨rfl, hb1⟩
          have H1 := Lib.hid (H.out.call hb1)
          have B1 := Lib.hid hb1
          clear hcr hb1
          go_wp2_with fail
          refine (hfi _ H1.out).mono ?_
          rintro e w2 ⟨A, m, c, A', m', c', rfl, hi, hi', hb2, hn, hn', -⟩
          obtain ⟨q, hq⟩ : ∃ q, q = w2.heap.size := ⟨_, rfl⟩
          obtain ⟨w3, hw3⟩ : ∃ w3, w3 = w2.alloc (.cells #[.int .i64 x0, .bool z0, .bool z1, .bool z7, .bool z9, .bool z5, .bool z6, .int .i64 zv, .int .i64 zp, .slice A m c, .slice A' m' c'] 74) := ⟨_, rfl⟩
          have hb3 : Below w1.heap.size w1 w3 := by rw [hw3]; exact hb2.alloc hb2.size _
          have H3 := Lib.hid (H1.out.call hb3)
          have B3 := Lib.hid (B1.out.trans (hb3.mono B1.out.size))
          have l3 : Row w3 q 74 [.int .i64 x0, .bool z0, .bool z1, .bool z7, .bool z9, .bool z5, .bool z6, .int .i64 zv, .int .i64 zp, .slice A m c, .slice A' m' c'] := by rw [hw3, hq]; exact Row.new w2 _ _
          have L3 := Lib.hid l3
          obtain ⟨⟨c0, c1, c2, c3, c4, c5, c6, c7, c8, c9, c10⟩, -⟩ := l3.eleven
          have HI : Hid (Loc w3 s v A m rr.ts) := Loc.new H1.out (by rw [hw3]; exact hi.call ((Below.refl _ _).alloc (Nat.le_refl _) _)) hn
          have HI' : Hid (Loc w3 s v A' m' (dgL p)) := Loc.new H1.out (by rw [hw3]; exact hi'.call ((Below.refl _ _).alloc (Nat.le_refl _) _)) hn'
          have hget := get_any H3.out HFR.out hLl 1 (by omega)
          have HW3 := Lib.hid hw3
          have HQ := Lib.hid hq
          clear hfi hb2 hw3 hb3 l3 hi hi' hn hn' hq
          go_upto_region 5 with (fail)
          rw [← HW3.out, ← HQ.out]
          go_wp2_with fail
          refine hget.mono ?_
          rintro e w4 (⟨-, v4, rfl, hT4, hM4⟩ | ⟨hn, -⟩)
          · have HX := Lib.hid (And.intro hT4 hM4)
            clear hT4 hM4 hget c0 c1 c2 c3 c4 c5 c6 c7 c8 c9 c10
            go_wp2_with fail
            go_ret
            exact ⟨rfl, v4, fun _ => HX.out.1, fun e => by omega, (Mv.of_below B3.out).trans HX.out.2⟩
          · rw [hL] at hn; simp at hn
        · have hLn : L ≠ [] := by rw [hL]; simp
          rw [if_neg hLn]
          go_enter Try.func10, Try.ntmps10
          go_wp2_with fail
          refine hcr.mono ?_
          rintro e w1 ⟨rfl, hb1⟩
          have H1 := Lib.hid (H.out.call hb1)
          have B1 := Lib.hid hb1
          clear hcr hb1
          go_wp2_with fail
          refine (hfi _ H1.out).mono ?_
          rintro e w2 ⟨A, m, c, A', m', c', rfl, hi, hi', hb2, hn, hn', -⟩
          obtain ⟨q, hq⟩ : ∃ q, q = w2.heap.size := ⟨_, rfl⟩
          obtain ⟨w3, hw3⟩ : ∃ w3, w3 = w2.alloc (.cells #[.int .i64 x0, .bool z0, .bool z1, .bool z7, .bool z9, .bool z5, .bool z6, .int .i64 zv, .int .i64 zp, .slice A m c, .slice A' m' c'] 74) := ⟨_, rfl⟩
          have hb3 : Below w1.heap.size w1 w3 := by rw [hw3]; exact hb2.alloc hb2.size _
          have H3 := Lib.hid (H1.out.call hb3)
          have B3 := Lib.hid (B1.out.trans (hb3.mono B1.out.size))
          have l3 : Row w3 q 74 [.int .i64 x0, .bool z0, .bool z1, .bool z7, .bool z9, .bool z5, .bool z6, .int .i64 zv, .int .i64 zp, .slice A m c, .slice A' m' c'] := by rw [hw3, hq]; exact Row.new w2 _ _
          have L3 := Lib.hid l3
          obtain ⟨⟨c0, c1, c2, c3, c4, c5, c6, c7, c8, c9, c10⟩, -⟩ := l3.eleven
          have HI : Hid (Loc w3 s v A m rr.ts) := Loc.new H1.out (by rw [hw3]; exact hi.call ((Below.refl _ _).alloc (Nat.le_refl _) _)) hn
          have HI' : Hid (Loc w3 s v A' m' (dgL p)) := Loc.new H1.out (by rw [hw3]; exact hi'.call ((Below.refl _ _).alloc (Nat.le_refl _) _)) hn'
          have hget := get_any H3.out HFR.out hLl 1 (by omega)
          have HW3 := Lib.hid hw3
          have HQ := Lib.hid hq
          clear hfi hb2 hw3 hb3 l3 hi hi' hn hn' hq
          go_upto_region 5 with (fail)
          rw [← HW3.out, ← HQ.out]
          go_wp2_with fail
          refine hget.mono ?_
          rintro e w4 (⟨hn, -⟩ | ⟨-, v4, A2, c2', rfl, hT4, hM4, hl4⟩)
          · rw [hL] at hn; simp at hn
          rw [hL, List.concat_eq_append, tk_one] at hT4 hl4
          simp only [List.length_append, List.length_singleton, Nat.add_sub_cancel, List.take_left'] at hT4
          have hT4' : Tab w4 s v4 (zeL ws f 1) L0 R := hT4
          have HT4 := Lib.hid hT4'
          have HM4 := Lib.hid ((Mv.of_below B3.out).trans hM4)
          have L4 := Lib.hid (H3.out.row hM4 L3.out (by decide) (by decide) (by decide))
          have HI4 := Lib.hid (HI.out.mv hM4)
          have HI4' := Lib.hid (HI'.out.mv hM4)
          have HL4 := Lib.hid hl4
          have hfb := HFR.out f (by rw [hL]; simp)
          have HLF := Lib.hid hL
          clear hT4 hT4' hM4 hl4 hget c0 c1 c2 c3 c4 c5 c6 c7 c8 c9 c10 H3 B3 L3 HI HI' hLn hL
          obtain ⟨⟨c0, c1, c2, c3, c4, c5, c6, c7, c8, c9, c10⟩, -⟩ := L4.out.eleven
          go_wp2_with fail
          refine (hpa _).mono ?_
          rintro e w5 ⟨rfl, hb5⟩
          have HT5 := Lib.hid (HT4.out.call hb5)
          have hm5 : Mv s v4 w4 v4 w5 := Mv.of_below hb5
          have HM5 := Lib.hid (HM4.out.trans hm5)
          have L5 := Lib.hid (L4.out.below hb5 L4.out.lt)
          have HI5 := Lib.hid (HI4.out.mv hm5)
          have HI5' := Lib.hid (HI4'.out.mv hm5)
          have HL5 := Lib.hid (HL4.out.mv hm5)
          clear hb5 hm5 hpa c0 c1 c2 c3 c4 c5 c6 c7 c8 c9 c10 HT4 HM4 L4 HI4 HI4' HL4
          go_wp2_with fail
          go_loopw [45] (fun i wx => ∃ j : Nat, j ≤ 8 ∧ i = .int .i64 j ∧ Tab wx s v4 (prL G f (zeL ws f 1) j) L0 R ∧ w5.grownBy wx (some s.b)) (fun i _ => 8 - (intOf i).toNat)
          case atStart => exact ⟨0, Nat.zero_le _, rfl, HT5.out, World.grownBy.refl _ _⟩
          case round =>
            obtain ⟨j, hj, rfl, hTj, hgj⟩ := hrel
            have HGJ := Lib.hid hgj
            have hMj : Mv s v4 w5 v4 wr := Mv.turned hgj (Or.inl rfl)
            have HMJ := Lib.hid hMj
            obtain ⟨a2, rfl, hab2, hc2⟩ := (HL5.out.mv hMj).cell (j := 0) (by omega)
            have ha2 : a2.block ≠ s.b := fun e => (HL5.out.mv hMj).off (by omega) a2 rfl (Or.inl e)
            have hc2' : wr.cell? a2 = some (.int .i64 f) := by simpa [Addr.add] using hc2
            by_cases hj8 : j < 8
            · have hidx := index8 G j hj8
              obtain ⟨x, hx⟩ : ∃ x, x = G j := ⟨_, rfl⟩
              rw [← hx] at hidx
              have HX := Lib.hid hx
              obtain ⟨ef, ep, ew, eh, ek, eu, ed⟩ := x
              simp only [encell] at hidx
              obtain ⟨q3, hq3⟩ : ∃ q3, q3 = wr.heap.size := ⟨_, rfl⟩
              obtain ⟨w6, hw6⟩ : ∃ w6, w6 = wr.alloc (.cells #[.int .i64 ef, .bool ep, .bool ew, .bool eh, .bool ek, .bool eu, .bool ed] 28) := ⟨_, rfl⟩
              have b6 : Below wr.heap.size wr w6 := by rw [hw6]; exact below_new _ _ _
              have r6 : Row w6 q3 28 [.int .i64 ef, .bool ep, .bool ew, .bool eh, .bool ek, .bool eu, .bool ed] := by rw [hw6, hq3]; exact Row.new wr _ _
              have hT6 := hTj.call b6
              have hput := tput_any (w := w6.drew) (hT6.call drew_b8) f (j : Int) ef ep ew eh ek eu ed
              have hq3b : q3 ≠ s.b := r6.apart hT6.ram.row (by decide)
              obtain ⟨v0, v1, v2, v3, v4', v5, v6⟩ := r6.seven.1
              have hc26 : w6.cell? a2 = some (.int .i64 f) := (b6.cell hab2).trans hc2'
              have hs6 : w6.drew.cell? a2 = some (.int .i64 f) ∧ w6.drew.cell? ⟨q3, 0, none⟩ = some (.int .i64 ef) ∧ w6.drew.cell? ⟨q3, 1, none⟩ = some (.bool ep) ∧ w6.drew.cell? ⟨q3, 2, none⟩ = some (.bool ew) ∧ w6.drew.cell? ⟨q3, 3, none⟩ = some (.bool eh) ∧ w6.drew.cell? ⟨q3, 4, none⟩ = some (.bool ek) ∧ w6.drew.cell? ⟨q3, 5, none⟩ = some (.bool eu) ∧ w6.drew.cell? ⟨q3, 6, none⟩ = some (.bool ed) :=
                ⟨hc26, v0, v1, v2, v3, v4', v5, v6⟩
              have HW6 := Lib.hid hw6
              have HQ3 := Lib.hid hq3
              have HB6 := Lib.hid b6
              clear hMj hgj hTj hc2 hc2' hx hq3 hw6 b6 r6 hT6 v0 v1 v2 v3 v4' v5 v6 hc26 hab2
              go_upto_region 15 with (refine wpList_index_run rfl _ _ _ rfl _ _ _ rfl rfl (hidx _) ?_)
              rw [← HW6.out, ← HQ3.out]
              go_region_held3 (fun z => z.cell? a2 = some (.int .i64 f) ∧ z.cell? ⟨q3, 0, none⟩ = some (.int .i64 ef) ∧ z.cell? ⟨q3, 1, none⟩ = some (.bool ep) ∧ z.cell? ⟨q3, 2, none⟩ = some (.bool ew) ∧ z.cell? ⟨q3, 3, none⟩ = some (.bool eh) ∧ z.cell? ⟨q3, 4, none⟩ = some (.bool ek) ∧ z.cell? ⟨q3, 5, none⟩ = some (.bool eu) ∧ z.cell? ⟨q3, 6, none⟩ = some (.bool ed))
                (first | exact hs6 | exact keep8' hs6 g7 ha2 hq3b) ((go_at_call 28; refine hput.mono ?_; rintro e w7 ⟨rfl, h7, g7⟩))
              have H7 := Lib.hid h7
              have G7 : Hid (w5.grownBy w7 (some s.b)) := grown_trans1 (grown_trans1 HGJ.out (grown_of_below HB6.out)) ⟨g7.os, g7.tape, g7.output, g7.size, g7.block⟩
              clear h7 g7 hs6 hput
              go_wp2_with fail
              go_roundw
              case rel => exact ⟨j + 1, by omega, by go_num, by
                show Tab w7 s v4 (ptL (prL G f (zeL ws f 1) j) f (j : Int) (enC (G j)) (enV (G j))) L0 R
                rw [← HX.out]; exact H7.out, G7.out⟩
              case measure => simp [intOf]; omega
            · obtain rfl : j = 8 := by omega
              obtain ⟨hln, hlv3⟩ := HLN.out
              have hLI := HI5.out.mv hMj
              have hLI' := HI5'.out.mv hMj
              have hm := hLI.ints.len
              have hm' := hLI'.ints.len
              obtain ⟨n, hnm1⟩ : ∃ n, m = n + 1 := ⟨m - 1, by omega⟩
              have hn3 : n = 3 - rr.lv := by omega
              have hwm : IntKind.i64.wrap ((m : Int) - 1) = (n : Int) := by rw [IntWalk.i64_in _ (by omega)]; omega
              have hnmi : (n : Int) < m := by omega
              have hd4 := HD4.out
              have hnm : (n : Int) < m' := by omega
              have hn9 : (n : Int) ≤ 4 := by omega
              obtain ⟨a, rfl, -, hc⟩ := hLI.cell (j := n) (by omega)
              obtain ⟨a', rfl, -, hc'⟩ := hLI'.cell (j := n) (by omega)
              have hba : ∀ (x : Addr) (n : Nat), (x.add n).block = x.block := fun x n => by unfold Addr.add; split <;> rfl
              have hAb : (a.add n).block ≠ s.b := by rw [hba]; exact fun e => hLI.off (by omega) a rfl (Or.inl e)
              have hAb' : (a'.add n).block ≠ s.b := by rw [hba]; exact fun e => hLI'.off (by omega) a' rfl (Or.inl e)
              obtain ⟨t, et⟩ : ∃ t, t = rr.ts.getD n 0 := ⟨_, rfl⟩
              obtain ⟨i, ei⟩ : ∃ i, i = (dgL p).getD n 0 := ⟨_, rfl⟩
              rw [← et] at hc
              rw [← ei] at hc'
              have l9 := L5.out.grown hgj (by intro e; injection e with e; exact L5.out.apart HT5.out.ram.row (by decide) e)
              have hqb : q ≠ s.b := L5.out.apart HT5.out.ram.row (by decide)
              have hput := tput_any (w := wr.drew) (hTj.call drew_b8) t i f true false false false false false
              rw [chk_link hfb.1 (by omega), show packI f true false false false false false = lnk f from packI_ok (by rw [chk_link hfb.1 (by omega)]; rfl)] at hput
              have c9 : wr.cell? ⟨q, 9, none⟩ = some (.slice (some a) m c) := l9.cell 9
              have c10 : wr.cell? ⟨q, 10, none⟩ = some (.slice (some a') m' c') := l9.cell 10
              have hs5 : wr.drew.cell? ⟨q, 9, none⟩ = some (.slice (some a) m c) ∧ wr.drew.cell? ⟨q, 10, none⟩ = some (.slice (some a') m' c') ∧ wr.drew.cell? (a.add n) = some (.int .i64 t) ∧ wr.drew.cell? (a'.add n) = some (.int .i64 i) ∧ wr.drew.cell? a2 = some (.int .i64 f) := ⟨c9, c10, hc, hc', hc2'⟩
              have HEE : Hid (lastT rr = t ∧ dg p rr.lv = i) := ⟨by unfold lastT; rw [et, hm, hnm1]; rfl, by rw [← HRR.out.2, ei, hn3]⟩
              clear hMj hgj hTj hc2 hLI hLI' hm hm' hnm1 hn3 hba et ei l9 hc hc' hab2 hln hlv3 hd4
              go_upto_region 18 with (fail)
              go_region_held3 (fun z => z.cell? ⟨q, 9, none⟩ = some (.slice (some a) m c) ∧ z.cell? ⟨q, 10, none⟩ = some (.slice (some a') m' c') ∧ z.cell? (a.add n) = some (.int .i64 t) ∧ z.cell? (a'.add n) = some (.int .i64 i) ∧ z.cell? a2 = some (.int .i64 f))
                (first | exact hs5 | exact keep5 hs5 g8 hqb hAb hAb' ha2) ((go_at_call 28; refine hput.mono ?_; rintro e w8 ⟨rfl, h8, g8⟩))
              have HH8 := Lib.hid (And.intro h8 g8)
              clear h8 g8 hs5 hput c9 c10 hc2'
              go_wp2
              go_ret
              refine ⟨rfl, v4, fun e => absurd rfl e, fun _ => ?_, (HM5.out.trans HMJ.out).trans (Mv.turned ⟨HH8.out.2.os, HH8.out.2.tape, HH8.out.2.output, HH8.out.2.size, HH8.out.2.block⟩ (Or.inl rfl))⟩
              have hLd : L.getLastD 0 = f := by rw [HLF.out]; simp
              have hLp : L.dropLast = L0 := by rw [HLF.out]; simp
              rw [hLd, hLp, HEE.out.1, HEE.out.2]
              exact HH8.out.1
    · simp only [if_neg he]
      have hfi := fun w1 (H1 : Tab w1 s v ws L R) => find_bad H1 r p he
      obtain ⟨z, ez⟩ : ∃ z, z = (fol ws r p).er := ⟨_, rfl⟩
      rw [← ez] at hfi he ⊢
      have hz : (z != 0) = true := by simpa using he
      have HZ := Lib.hid he
      clear he ez
      go_enter Try.func10, Try.ntmps10
      go_wp2_with fail
      refine hcr.mono ?_
      rintro e w1 ⟨rfl, hb1⟩
      have H1 := Lib.hid (H.out.call hb1)
      have B1 := Lib.hid hb1
      clear hcr hb1
      go_wp2_with fail
      refine (hfi _ H1.out).mono ?_
      unfold zeroSt
      rintro e w2 ⟨rfl, hb2⟩
      have H2 := Lib.hid (H1.out.call hb2)
      have B2 := Lib.hid (B1.out.trans (hb2.mono B1.out.size))
      clear hfi hb2
      go_wp2_with fail
      go_ret
      have b4 := below_new w2 74 [.int .i64 0, .bool false, .bool false, .bool false, .bool false, .bool false, .bool false, .int .i64 0, .int .i64 0, .slice none 0 0, .slice none 0 0]
      exact ⟨rfl, v, fun _ => H2.out.call b4, fun e => absurd e HZ.out, Mv.of_below (B2.out.trans (b4.mono B2.out.size))⟩
  · rw [if_neg h0]
    obtain ⟨z, ez⟩ : ∃ z, z = rtE R r := ⟨_, rfl⟩
    rw [← ez] at hcr h0 ⊢
    have hz : (z != 0) = true := by simpa using h0
    have HZ := Lib.hid h0
    clear h0 ez
    go_enter Try.func10, Try.ntmps10
    go_wp2_with fail
    refine hcr.mono ?_
    rintro e w1 ⟨rfl, hb1⟩
    have H1 := Lib.hid (H.out.call hb1)
    have B1 := Lib.hid hb1
    clear hcr hb1
    go_wp2_with fail
    go_ret
    exact ⟨rfl, v, fun _ => H1.out, fun e => absurd e HZ.out, Mv.of_below B1.out⟩
end
end Go.Proofs.Ytpcpcgbejinlmaa
