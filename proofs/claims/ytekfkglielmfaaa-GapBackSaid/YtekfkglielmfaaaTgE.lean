/- The program's tree: made. -/
import Derived.Test.YtekfkglielmfaaaTgD
namespace Go.Proofs.Ytekfkglielmfaaa
open Go.RowKit
section
variable {w w' W : World} {T l r : Nd} {s : Nat × Nat} {v x y : Value} {g q : Nat} {h f a z : Int}
theorem NdAt.form (h : NdAt w T v) : ∃ o, v = .pointer o := by
  rcases h.ptr with ⟨-, rfl⟩ | ⟨b, l, s, r, -, rfl, -⟩
  · exact ⟨_, rfl⟩
  · exact ⟨_, rfl⟩
/-- A node that is being made. -/
def MkAt (w W : World) (g q : Nat) (s : Nat × Nat) (x y : Value) (h f a z : Int) : Prop :=
  Lrow W g 63 [.int .i64 s.1, .int .i64 s.2, x, y, .int .i64 h, .int .i64 f, .int .i64 a, .int .i64 z] ∧ Lrow W q 61 [.int .i64 s.1, .int .i64 s.2] ∧ Below w.heap.size w W ∧ w.heap.size ≤ g ∧ q ≠ g
theorem MkAt.set4 (m : MkAt w W g q s x y h f a z) (u : Int) : MkAt w (W.setCell ⟨g, 4, none⟩ (.int .i64 u)) g q s x y u f a z :=
  ⟨m.1.set_ 4 _, m.2.1.far m.2.2.2.2 _, m.2.2.1.setCell m.2.2.2.1 _, m.2.2.2⟩
theorem MkAt.set5 (m : MkAt w W g q s x y h f a z) (u : Int) : MkAt w (W.setCell ⟨g, 5, none⟩ (.int .i64 u)) g q s x y h u a z :=
  ⟨m.1.set_ 5 _, m.2.1.far m.2.2.2.2 _, m.2.2.1.setCell m.2.2.2.1 _, m.2.2.2⟩
theorem MkAt.set6 (m : MkAt w W g q s x y h f a z) (u : Int) : MkAt w (W.setCell ⟨g, 6, none⟩ (.int .i64 u)) g q s x y h f u z :=
  ⟨m.1.set_ 6 _, m.2.1.far m.2.2.2.2 _, m.2.2.1.setCell m.2.2.2.1 _, m.2.2.2⟩
theorem MkAt.set7 (m : MkAt w W g q s x y h f a z) (u : Int) : MkAt w (W.setCell ⟨g, 7, none⟩ (.int .i64 u)) g q s x y h f a u :=
  ⟨m.1.set_ 7 _, m.2.1.far m.2.2.2.2 _, m.2.2.1.setCell m.2.2.2.1 _, m.2.2.2⟩
theorem MkAt.drew (m : MkAt w W g q s x y h f a z) : MkAt w W.drew g q s x y h f a z := ⟨m.1, m.2.1, below_dN m.2.2.1 1, m.2.2.2⟩
theorem MkAt.node (m : MkAt w W g q s x y (1 + max l.ht r.ht : Nat) ((Nd.node l s r).fi : Nat) ((Nd.node l s r).la : Nat) (Nd.node l s r).gp) (hx : NdAt w l x) (hy : NdAt w r y) : NdAt W (.node l s r) (.pointer (some ⟨g, 0, none⟩)) :=
  ⟨g, x, y, rfl, m.1, hx.call m.2.2.1, hy.call m.2.2.1⟩
theorem MkAt.drewN (m : MkAt w W g q s x y h f a z) (k : Nat) : MkAt w (W.drewN k) g q s x y h f a z := ⟨m.1, m.2.1, below_dN m.2.2.1 k, m.2.2.2⟩
theorem MkAt.fin (m : MkAt w W g q s x y h f a z) (hx : NdAt w l x) (hy : NdAt w r y) (hh : h = (1 + max l.ht r.ht : Nat)) (hf : f = ((Nd.node l s r).fi : Nat)) (ha : a = ((Nd.node l s r).la : Nat)) (hz : z = (Nd.node l s r).gp) : w.heap.size ≤ g ∧ NdAt W (.node l s r) (.pointer (some ⟨g, 0, none⟩)) ∧ Below w.heap.size w W := by
  subst hh; subst hf; subst ha; subst hz
  exact ⟨m.2.2.2.1, m.node hx hy, m.2.2.1⟩
theorem keep_mk {cg cq : List Value} {u a5 a6 a0 a1 : Value} (hg : Lrow W g 63 cg) (hq : Lrow W q 61 cq) (hn : q ≠ g) (e5 : cg[5]? = some a5) (e6 : cg[6]? = some a6) (e0 : cq[0]? = some a0) (e1 : cq[1]? = some a1) :
    (W.setCell ⟨g, 7, none⟩ u).cell? ⟨g, 5, none⟩ = some a5 ∧ (W.setCell ⟨g, 7, none⟩ u).cell? ⟨g, 6, none⟩ = some a6 ∧ (W.setCell ⟨g, 7, none⟩ u).cell? ⟨q, 0, none⟩ = some a0 ∧ (W.setCell ⟨g, 7, none⟩ u).cell? ⟨q, 1, none⟩ = some a1 := by
  have h1 := hg.set_ 7 u
  have h2 := hq.far (p := ⟨g, 7, none⟩) hn u
  refine ⟨(h1.cell 5).trans ?_, (h1.cell 6).trans ?_, (h2.cell 0).trans e0, (h2.cell 1).trans e1⟩
  · rw [List.getElem?_set_ne (by omega)]; exact e5
  · rw [List.getElem?_set_ne (by omega)]; exact e6
theorem room_w (h : NdAt w T v) (ok : OkS T.L) {a b : Int} (a0 : 0 ≤ a) (a1 : a ≤ 4096) (b0 : 0 ≤ b) (b1 : b ≤ 4096) : ∀ w', w'.heap = w.heap → Calls Try.prog 32 #[v, .int .i64 a, .int .i64 b] w' fun e w2 => e = .returned (.int .i64 (T.rm a b)) ∧ ∃ n, w2 = w'.drewN n := fun w' e =>
  room_p (h.keep fun _ _ _ => by rw [e]) ok a0 a1 b0 b1
theorem nd_cell5 (h : NdAt w (.node l s r) (.pointer (some ⟨g, 0, none⟩))) : w.cell? ⟨g, 5, none⟩ = some (.int .i64 ((Nd.node l s r).fi : Nat)) := by
  obtain ⟨b, x, y, e, hr, -, -⟩ := h
  simp only [Value.pointer.injEq, Option.some.injEq, Addr.mk.injEq] at e
  obtain ⟨rfl, -⟩ := e
  exact hr.cell 5
theorem nd_cell6 (h : NdAt w (.node l s r) (.pointer (some ⟨g, 0, none⟩))) : w.cell? ⟨g, 6, none⟩ = some (.int .i64 ((Nd.node l s r).la : Nat)) := by
  obtain ⟨b, x, y, e, hr, -, -⟩ := h
  simp only [Value.pointer.injEq, Option.some.injEq, Addr.mk.injEq] at e
  obtain ⟨rfl, -⟩ := e
  exact hr.cell 6
set_option maxHeartbeats 4000000 in
set_option maxRecDepth 100000 in
theorem made_nn {Tl Tr : Nd} (hTl : Tl = Nd.nil) (hTr : Tr = Nd.nil) (hx : NdAt w Tl (Value.pointer none)) (hy : NdAt w Tr (Value.pointer none)) (ok : OkS (Nd.node Tl s Tr).L) : Calls Try.prog 47 #[(Value.pointer none), .agg #[.int .i64 s.1, .int .i64 s.2], (Value.pointer none)] w fun e w' => ∃ g, e = .returned (.pointer (some ⟨g, 0, none⟩)) ∧ w.heap.size ≤ g ∧ NdAt w' (.node Tl s Tr) (.pointer (some ⟨g, 0, none⟩)) ∧ Below w.heap.size w w' := by
  obtain ⟨okl, okr, oks, h1, h2⟩ := ok.nd
  have fl0 := Nd.fi_le ok
  have ll0 := Nd.la_le ok
  have hh := Nd.ht_le (Nd.node Tl s Tr)
  have hlen := ok.len
  have ht0 : (Nd.node Tl s Tr).ht = 1 + max Tl.ht Tr.ht := rfl
  have hfi : (Nd.node Tl s Tr).fi = s.1 := by rw [hTl]; rfl
  have hla : (Nd.node Tl s Tr).la = s.2 := by rw [hTr]; rfl
  have hgp : (Nd.node Tl s Tr).gp = max (Tl.rm (Nd.node Tl s Tr).fi s.1) (Tr.rm s.2 (Nd.node Tl s Tr).la) := rfl
  obtain ⟨zf, ezf⟩ : ∃ z : Int, z = ((Nd.node Tl s Tr).fi : Nat) := ⟨_, rfl⟩
  obtain ⟨zl, ezl⟩ : ∃ z : Int, z = ((Nd.node Tl s Tr).la : Nat) := ⟨_, rfl⟩
  obtain ⟨w1, hw1⟩ : ∃ w1, w1 = w.alloc (.cells #[.int .i64 s.1, .int .i64 s.2] 61) := ⟨_, rfl⟩
  obtain ⟨q, hq⟩ : ∃ q, q = w.heap.size := ⟨_, rfl⟩
  have rs : Lrow w1 q 61 [.int .i64 s.1, .int .i64 s.2] := by rw [hw1, hq]; exact Lrow.new w _ _
  have b1 : Below w.heap.size w w1 := by rw [hw1]; exact below_new _ _
  obtain ⟨g, hg⟩ : ∃ g, g = w1.heap.size := ⟨_, rfl⟩
  obtain ⟨w2, hw2⟩ : ∃ w2, w2 = w1.alloc (.cells #[.int .i64 s.1, .int .i64 s.2, (Value.pointer none), (Value.pointer none), .int .i64 0, .int .i64 s.1, .int .i64 s.2, .int .i64 0] 63) := ⟨_, rfl⟩
  have hqg : q < g := by rw [hg]; exact rs.lt
  have M2 : Hid (MkAt w w2 g q s (Value.pointer none) (Value.pointer none) 0 s.1 s.2 0) := by
    have b12 : Below w1.heap.size w1 w2 := by rw [hw2]; exact below_new _ _
    exact ⟨by rw [hw2, hg]; exact Lrow.new w1 _ _, rs.call b12, b1.trans (b12.mono b1.size), by rw [hg]; exact b1.size, by omega⟩
  have HA := Lib.hid (And.intro hw1 hq)
  have HW := Lib.hid (And.intro hw2 hg)
  have HX := Lib.hid (And.intro hx (And.intro hy (And.intro okl okr)))
  have HF := Lib.hid (And.intro ezf (And.intro ezl (And.intro ht0 (And.intro hgp (And.intro hTl hTr)))))
  have hs1 : (0 : Int) ≤ s.1 ∧ (s.1 : Int) ≤ 4096 := by omega
  have hs2 : (0 : Int) ≤ s.2 ∧ (s.2 : Int) ≤ 4096 := by omega
  have hzf : (0 : Int) ≤ zf ∧ zf ≤ 4096 := by omega
  have hzl : (0 : Int) ≤ zl ∧ zl ≤ 4096 := by omega
  have hfx : Hid (zf = (s.1 : Nat)) := by show _ = _; rw [ezf, hfi]
  have hlx : Hid (zl = (s.2 : Nat)) := by show _ = _; rw [ezl, hla]
  obtain ⟨H, hH⟩ : ∃ H : Nat, H = 1 + max Tl.ht Tr.ht := ⟨_, rfl⟩
  have hH1 : H ≤ 4095 := by omega
  have HH := Lib.hid hH
  have q0 := rs.cell 0
  have q1 := rs.cell 1
  obtain ⟨s1, s2⟩ := s
  dsimp only at *
  clear hw1 hq b1 rs hw2 hg ezf ezl ht0 hgp hTl hTr hh fl0 ll0 hfi hla hlen oks h1 h2 hx hy okl okr ok hqg hH
  go_enter Try.func47, Try.ntmps47
  go_upto_region 1 with (fail)
  rw [← HA.out.1, ← HA.out.2]
  go_upto_region 2 with (fail)
  rw [← HW.out.1, ← HW.out.2]
  clear q0 q1 HA HW
  go_upto_region 4 with (fail)
  go_upto_region 6 with (fail)
  have M6 : Hid (MkAt w w2 g q (s1, s2) (Value.pointer none) (Value.pointer none) 0 zf zl 0) := by have e1 := hfx.out; have e2 := hlx.out; have := M2.out; (try dsimp only at *); rw [← e1, ← e2] at this; exact this
  clear M2
  -- heights
  have ht1 : Hid (∀ k, NdAt (w2.drewN k) Tl (Value.pointer none)) := fun k => (HX.out.1.call M6.out.2.2.1).drewN k
  have ht2 : Hid (∀ k, NdAt (w2.drewN k) Tr (Value.pointer none)) := fun k => (HX.out.2.1.call M6.out.2.2.1).drewN k
  have c1 := tall_p (ht1.out 0)
  have c2 := tall_p (ht2.out 0)
  have n4 := M6.out.1.cell 4
  have nf := M6.out.1.frozen 4
  obtain ⟨hl, ehl⟩ : ∃ z : Int, z = (Tl.ht : Nat) := ⟨_, rfl⟩
  obtain ⟨hr, ehr⟩ : ∃ z : Int, z = (Tr.ht : Nat) := ⟨_, rfl⟩
  rw [← ehl] at c1
  rw [← ehr] at c2
  have hz1 : 0 ≤ hl ∧ hl ≤ 4095 := by have := HH.out; omega
  have hz2 : 0 ≤ hr ∧ hr ≤ 4095 := by have := HH.out; omega
  have HHL := Lib.hid (And.intro ehl ehr)
  have HHI : Hid ((H : Int) = 1 + max hl hr) := by have := HH.out; show _ = _; omega
  clear ehl ehr
  go_upto_region 6 with (fail)
  go_cut [] from 35 to 44 (fun wx => MkAt w wx g q (s1, s2) (Value.pointer none) (Value.pointer none) H zf zl 0)
  case first =>
    by_cases hc : hl < hr
    · exact absurd hc (by rw [HHL.out.1, HHL.out.2, HF.out.2.2.2.2.1, HF.out.2.2.2.2.2]; omega)
    · have e1 : IntKind.i64.wrap (1 + hl) = 1 + hl := IntWalk.i64_in _ (by omega)
      go_wp2_with (first | (go_at_call_of 40 (Value.pointer none); refine c1.mono ?_; rintro e wt ⟨rfl, rfl⟩) | (go_at_call_of 40 (Value.pointer none); refine c2.mono ?_; rintro e wt ⟨rfl, rfl⟩) | fail)
      go_meet
      have e2 : (1 + hl : Int) = H := by have := HHI.out; omega
      rw [e2]
      exact M6.out.set4 _
  case rest =>
    have M7 := Lib.hid hcut
    have r1 := room_w (HX.out.1.call M7.out.2.2.1) HX.out.2.2.1 hzf.1 hzf.2 hs1.1 hs1.2
    have r2 := room_w (HX.out.2.1.call M7.out.2.2.1) HX.out.2.2.2 hs2.1 hs2.2 hzl.1 hzl.2
    have HGP : Hid ((Nd.node Tl (s1, s2) Tr).gp = max (Tl.rm zf s1) (Tr.rm s2 zl)) := by show _ = _; rw [HF.out.1, HF.out.2.1]; exact HF.out.2.2.2.1
    obtain ⟨ZL, hZL⟩ : ∃ Z, Z = Tl.rm zf s1 := ⟨_, rfl⟩
    obtain ⟨ZR, hZR⟩ : ∃ Z, Z = Tr.rm s2 zl := ⟨_, rfl⟩
    rw [← hZL, ← hZR] at HGP
    rw [← hZL] at r1
    rw [← hZR] at r2
    have hs : wc.cell? ⟨g, 5, none⟩ = some (.int .i64 zf) ∧ wc.cell? ⟨g, 6, none⟩ = some (.int .i64 zl) ∧ wc.cell? ⟨q, 0, none⟩ = some (.int .i64 s1) ∧ wc.cell? ⟨q, 1, none⟩ = some (.int .i64 s2) := ⟨M7.out.1.cell 5, M7.out.1.cell 6, M7.out.2.1.cell 0, M7.out.2.1.cell 1⟩
    have n7 := M7.out.1.cell 7
    have nf := M7.out.1.frozen 7
    have hrg := M7.out.1
    have hrq := M7.out.2.1
    have hnq := M7.out.2.2.2.2
    clear hcut hZL hZR c1 c2 n4 M6
    go_upto_region 7 with (fail)
    go_region_held3 (fun v => v.cell? ⟨g, 5, none⟩ = some (.int .i64 zf) ∧ v.cell? ⟨g, 6, none⟩ = some (.int .i64 zl) ∧ v.cell? ⟨q, 0, none⟩ = some (.int .i64 s1) ∧ v.cell? ⟨q, 1, none⟩ = some (.int .i64 s2))
      (first | exact hs | exact keep_mk hrg hrq hnq rfl rfl rfl rfl)
      (first | (go_at_call 32; (with_reducible refine (r1 _ ?_).mono ?_); (focus rfl); rintro e wv ⟨rfl, n1, rfl⟩) | (go_at_call 32; (with_reducible refine (r2 _ ?_).mono ?_); (focus rfl); rintro e wv ⟨rfl, n2, rfl⟩) | fail)
    all_goals go_wp2_with fail
    all_goals
      go_ret
      have e7 := HGP.out
      have eH : (H : Int) = (1 + max Tl.ht Tr.ht : Nat) := by rw [HH.out]
      exact ⟨g, rfl, MkAt.fin ((M7.out.drewN _).set7 _) HX.out.1 HX.out.2.1 eH HF.out.1 HF.out.2.1 (by omega)⟩
set_option maxHeartbeats 4000000 in
set_option maxRecDepth 100000 in
theorem made_ns {lr rr : Nd} {sr : Nat × Nat} {br : Nat} {Tl Tr : Nd} (hTl : Tl = Nd.nil) (hTr : Tr = (Nd.node lr sr rr)) (hx : NdAt w Tl (Value.pointer none)) (hy : NdAt w Tr (Value.pointer (some ⟨br, 0, none⟩))) (ok : OkS (Nd.node Tl s Tr).L) : Calls Try.prog 47 #[(Value.pointer none), .agg #[.int .i64 s.1, .int .i64 s.2], (Value.pointer (some ⟨br, 0, none⟩))] w fun e w' => ∃ g, e = .returned (.pointer (some ⟨g, 0, none⟩)) ∧ w.heap.size ≤ g ∧ NdAt w' (.node Tl s Tr) (.pointer (some ⟨g, 0, none⟩)) ∧ Below w.heap.size w w' := by
  obtain ⟨okl, okr, oks, h1, h2⟩ := ok.nd
  have fl0 := Nd.fi_le ok
  have ll0 := Nd.la_le ok
  have hh := Nd.ht_le (Nd.node Tl s Tr)
  have hlen := ok.len
  have ht0 : (Nd.node Tl s Tr).ht = 1 + max Tl.ht Tr.ht := rfl
  have hfi : (Nd.node Tl s Tr).fi = s.1 := by rw [hTl]; rfl
  have hla : (Nd.node Tl s Tr).la = (Nd.node lr sr rr).la := by rw [hTr]; rfl
  have hgp : (Nd.node Tl s Tr).gp = max (Tl.rm (Nd.node Tl s Tr).fi s.1) (Tr.rm s.2 (Nd.node Tl s Tr).la) := rfl
  obtain ⟨zf, ezf⟩ : ∃ z : Int, z = ((Nd.node Tl s Tr).fi : Nat) := ⟨_, rfl⟩
  obtain ⟨zl, ezl⟩ : ∃ z : Int, z = ((Nd.node Tl s Tr).la : Nat) := ⟨_, rfl⟩
  obtain ⟨w1, hw1⟩ : ∃ w1, w1 = w.alloc (.cells #[.int .i64 s.1, .int .i64 s.2] 61) := ⟨_, rfl⟩
  obtain ⟨q, hq⟩ : ∃ q, q = w.heap.size := ⟨_, rfl⟩
  have rs : Lrow w1 q 61 [.int .i64 s.1, .int .i64 s.2] := by rw [hw1, hq]; exact Lrow.new w _ _
  have b1 : Below w.heap.size w w1 := by rw [hw1]; exact below_new _ _
  obtain ⟨g, hg⟩ : ∃ g, g = w1.heap.size := ⟨_, rfl⟩
  obtain ⟨w2, hw2⟩ : ∃ w2, w2 = w1.alloc (.cells #[.int .i64 s.1, .int .i64 s.2, (Value.pointer none), (Value.pointer (some ⟨br, 0, none⟩)), .int .i64 0, .int .i64 s.1, .int .i64 s.2, .int .i64 0] 63) := ⟨_, rfl⟩
  have hqg : q < g := by rw [hg]; exact rs.lt
  have M2 : Hid (MkAt w w2 g q s (Value.pointer none) (Value.pointer (some ⟨br, 0, none⟩)) 0 s.1 s.2 0) := by
    have b12 : Below w1.heap.size w1 w2 := by rw [hw2]; exact below_new _ _
    exact ⟨by rw [hw2, hg]; exact Lrow.new w1 _ _, rs.call b12, b1.trans (b12.mono b1.size), by rw [hg]; exact b1.size, by omega⟩
  have HA := Lib.hid (And.intro hw1 hq)
  have HW := Lib.hid (And.intro hw2 hg)
  have HX := Lib.hid (And.intro hx (And.intro hy (And.intro okl okr)))
  have HF := Lib.hid (And.intro ezf (And.intro ezl (And.intro ht0 (And.intro hgp (And.intro hTl hTr)))))
  have hs1 : (0 : Int) ≤ s.1 ∧ (s.1 : Int) ≤ 4096 := by omega
  have hs2 : (0 : Int) ≤ s.2 ∧ (s.2 : Int) ≤ 4096 := by omega
  have hzf : (0 : Int) ≤ zf ∧ zf ≤ 4096 := by omega
  have hzl : (0 : Int) ≤ zl ∧ zl ≤ 4096 := by omega
  have hfx : Hid (zf = (s.1 : Nat)) := by show _ = _; rw [ezf, hfi]
  have hlx : Hid (zl = ((Nd.node lr sr rr).la : Nat)) := by show _ = _; rw [ezl, hla]
  obtain ⟨H, hH⟩ : ∃ H : Nat, H = 1 + max Tl.ht Tr.ht := ⟨_, rfl⟩
  have hH1 : H ≤ 4095 := by omega
  have HH := Lib.hid hH
  have q0 := rs.cell 0
  have q1 := rs.cell 1
  obtain ⟨s1, s2⟩ := s
  dsimp only at *
  clear hw1 hq b1 rs hw2 hg ezf ezl ht0 hgp hTl hTr hh fl0 ll0 hfi hla hlen oks h1 h2 hx hy okl okr ok hqg hH
  go_enter Try.func47, Try.ntmps47
  go_upto_region 1 with (fail)
  rw [← HA.out.1, ← HA.out.2]
  go_upto_region 2 with (fail)
  rw [← HW.out.1, ← HW.out.2]
  clear q0 q1 HA HW
  go_upto_region 4 with (fail)
  go_upto_region 5 with (fail)
  have k6 : w2.cell? ⟨br, 6, none⟩ = some (.int .i64 zl) := by rw [hlx.out]; have := HX.out.2.1.call M2.out.2.2.1; rw [HF.out.2.2.2.2.2] at this; exact nd_cell6 this
  have n6 := M2.out.1.cell 6
  have nf := M2.out.1.frozen 6
  obtain ⟨w4, hw4⟩ : ∃ w4, w4 = w2.setCell ⟨g, 6, none⟩ (.int .i64 zl) := ⟨_, rfl⟩
  have M4 : Hid (MkAt w w4 g q (s1, s2) (Value.pointer none) (Value.pointer (some ⟨br, 0, none⟩)) 0 s1 zl 0) := by rw [hw4]; exact M2.out.set6 _
  have HW4 := Lib.hid hw4
  clear hw4
  go_upto_region 6 with (fail)
  rw [← HW4.out]
  clear k6 n6 nf HW4 M2
  have M6 : Hid (MkAt w w4 g q (s1, s2) (Value.pointer none) (Value.pointer (some ⟨br, 0, none⟩)) 0 zf zl 0) := by have e1 := hfx.out; have e2 := hlx.out; have := M4.out; (try dsimp only at *); rw [← e1] at this; exact this
  clear M4
  -- heights
  have ht1 : Hid (∀ k, NdAt (w4.drewN k) Tl (Value.pointer none)) := fun k => (HX.out.1.call M6.out.2.2.1).drewN k
  have ht2 : Hid (∀ k, NdAt (w4.drewN k) Tr (Value.pointer (some ⟨br, 0, none⟩))) := fun k => (HX.out.2.1.call M6.out.2.2.1).drewN k
  have c1 := tall_p (ht1.out 0)
  have c2 := tall_p (ht2.out 0)
  have n4 := M6.out.1.cell 4
  have nf := M6.out.1.frozen 4
  obtain ⟨hl, ehl⟩ : ∃ z : Int, z = (Tl.ht : Nat) := ⟨_, rfl⟩
  obtain ⟨hr, ehr⟩ : ∃ z : Int, z = (Tr.ht : Nat) := ⟨_, rfl⟩
  rw [← ehl] at c1
  rw [← ehr] at c2
  have hz1 : 0 ≤ hl ∧ hl ≤ 4095 := by have := HH.out; omega
  have hz2 : 0 ≤ hr ∧ hr ≤ 4095 := by have := HH.out; omega
  have HHL := Lib.hid (And.intro ehl ehr)
  have HHI : Hid ((H : Int) = 1 + max hl hr) := by have := HH.out; show _ = _; omega
  clear ehl ehr
  go_upto_region 6 with (fail)
  go_cut [] from 35 to 44 (fun wx => MkAt w wx g q (s1, s2) (Value.pointer none) (Value.pointer (some ⟨br, 0, none⟩)) H zf zl 0)
  case first =>
    by_cases hc : hl < hr
    · have e1 : IntKind.i64.wrap (1 + hr) = 1 + hr := IntWalk.i64_in _ (by omega)
      go_wp2_with (first | (go_at_call_of 40 (Value.pointer none); refine c1.mono ?_; rintro e wt ⟨rfl, rfl⟩) | (go_at_call_of 40 (Value.pointer (some ⟨br, 0, none⟩)); refine c2.mono ?_; rintro e wt ⟨rfl, rfl⟩) | fail)
      go_meet
      have e2 : (1 + hr : Int) = H := by have := HHI.out; omega
      rw [e2]
      exact M6.out.set4 _
    · have e1 : IntKind.i64.wrap (1 + hl) = 1 + hl := IntWalk.i64_in _ (by omega)
      go_wp2_with (first | (go_at_call_of 40 (Value.pointer none); refine c1.mono ?_; rintro e wt ⟨rfl, rfl⟩) | (go_at_call_of 40 (Value.pointer (some ⟨br, 0, none⟩)); refine c2.mono ?_; rintro e wt ⟨rfl, rfl⟩) | fail)
      go_meet
      have e2 : (1 + hl : Int) = H := by have := HHI.out; omega
      rw [e2]
      exact M6.out.set4 _
  case rest =>
    have M7 := Lib.hid hcut
    have r1 := room_w (HX.out.1.call M7.out.2.2.1) HX.out.2.2.1 hzf.1 hzf.2 hs1.1 hs1.2
    have r2 := room_w (HX.out.2.1.call M7.out.2.2.1) HX.out.2.2.2 hs2.1 hs2.2 hzl.1 hzl.2
    have HGP : Hid ((Nd.node Tl (s1, s2) Tr).gp = max (Tl.rm zf s1) (Tr.rm s2 zl)) := by show _ = _; rw [HF.out.1, HF.out.2.1]; exact HF.out.2.2.2.1
    obtain ⟨ZL, hZL⟩ : ∃ Z, Z = Tl.rm zf s1 := ⟨_, rfl⟩
    obtain ⟨ZR, hZR⟩ : ∃ Z, Z = Tr.rm s2 zl := ⟨_, rfl⟩
    rw [← hZL, ← hZR] at HGP
    rw [← hZL] at r1
    rw [← hZR] at r2
    have hs : wc.cell? ⟨g, 5, none⟩ = some (.int .i64 zf) ∧ wc.cell? ⟨g, 6, none⟩ = some (.int .i64 zl) ∧ wc.cell? ⟨q, 0, none⟩ = some (.int .i64 s1) ∧ wc.cell? ⟨q, 1, none⟩ = some (.int .i64 s2) := ⟨M7.out.1.cell 5, M7.out.1.cell 6, M7.out.2.1.cell 0, M7.out.2.1.cell 1⟩
    have n7 := M7.out.1.cell 7
    have nf := M7.out.1.frozen 7
    have hrg := M7.out.1
    have hrq := M7.out.2.1
    have hnq := M7.out.2.2.2.2
    clear hcut hZL hZR c1 c2 n4 M6
    go_upto_region 7 with (fail)
    go_region_held3 (fun v => v.cell? ⟨g, 5, none⟩ = some (.int .i64 zf) ∧ v.cell? ⟨g, 6, none⟩ = some (.int .i64 zl) ∧ v.cell? ⟨q, 0, none⟩ = some (.int .i64 s1) ∧ v.cell? ⟨q, 1, none⟩ = some (.int .i64 s2))
      (first | exact hs | exact keep_mk hrg hrq hnq rfl rfl rfl rfl)
      (first | (go_at_call 32; (with_reducible refine (r1 _ ?_).mono ?_); (focus rfl); rintro e wv ⟨rfl, n1, rfl⟩) | (go_at_call 32; (with_reducible refine (r2 _ ?_).mono ?_); (focus rfl); rintro e wv ⟨rfl, n2, rfl⟩) | fail)
    all_goals go_wp2_with fail
    all_goals
      go_ret
      have e7 := HGP.out
      have eH : (H : Int) = (1 + max Tl.ht Tr.ht : Nat) := by rw [HH.out]
      exact ⟨g, rfl, MkAt.fin ((M7.out.drewN _).set7 _) HX.out.1 HX.out.2.1 eH HF.out.1 HF.out.2.1 (by omega)⟩
set_option maxHeartbeats 4000000 in
set_option maxRecDepth 100000 in
theorem made_sn {ll rl : Nd} {sl : Nat × Nat} {bl : Nat} {Tl Tr : Nd} (hTl : Tl = (Nd.node ll sl rl)) (hTr : Tr = Nd.nil) (hx : NdAt w Tl (Value.pointer (some ⟨bl, 0, none⟩))) (hy : NdAt w Tr (Value.pointer none)) (ok : OkS (Nd.node Tl s Tr).L) : Calls Try.prog 47 #[(Value.pointer (some ⟨bl, 0, none⟩)), .agg #[.int .i64 s.1, .int .i64 s.2], (Value.pointer none)] w fun e w' => ∃ g, e = .returned (.pointer (some ⟨g, 0, none⟩)) ∧ w.heap.size ≤ g ∧ NdAt w' (.node Tl s Tr) (.pointer (some ⟨g, 0, none⟩)) ∧ Below w.heap.size w w' := by
  obtain ⟨okl, okr, oks, h1, h2⟩ := ok.nd
  have fl0 := Nd.fi_le ok
  have ll0 := Nd.la_le ok
  have hh := Nd.ht_le (Nd.node Tl s Tr)
  have hlen := ok.len
  have ht0 : (Nd.node Tl s Tr).ht = 1 + max Tl.ht Tr.ht := rfl
  have hfi : (Nd.node Tl s Tr).fi = (Nd.node ll sl rl).fi := by rw [hTl]; rfl
  have hla : (Nd.node Tl s Tr).la = s.2 := by rw [hTr]; rfl
  have hgp : (Nd.node Tl s Tr).gp = max (Tl.rm (Nd.node Tl s Tr).fi s.1) (Tr.rm s.2 (Nd.node Tl s Tr).la) := rfl
  obtain ⟨zf, ezf⟩ : ∃ z : Int, z = ((Nd.node Tl s Tr).fi : Nat) := ⟨_, rfl⟩
  obtain ⟨zl, ezl⟩ : ∃ z : Int, z = ((Nd.node Tl s Tr).la : Nat) := ⟨_, rfl⟩
  obtain ⟨w1, hw1⟩ : ∃ w1, w1 = w.alloc (.cells #[.int .i64 s.1, .int .i64 s.2] 61) := ⟨_, rfl⟩
  obtain ⟨q, hq⟩ : ∃ q, q = w.heap.size := ⟨_, rfl⟩
  have rs : Lrow w1 q 61 [.int .i64 s.1, .int .i64 s.2] := by rw [hw1, hq]; exact Lrow.new w _ _
  have b1 : Below w.heap.size w w1 := by rw [hw1]; exact below_new _ _
  obtain ⟨g, hg⟩ : ∃ g, g = w1.heap.size := ⟨_, rfl⟩
  obtain ⟨w2, hw2⟩ : ∃ w2, w2 = w1.alloc (.cells #[.int .i64 s.1, .int .i64 s.2, (Value.pointer (some ⟨bl, 0, none⟩)), (Value.pointer none), .int .i64 0, .int .i64 s.1, .int .i64 s.2, .int .i64 0] 63) := ⟨_, rfl⟩
  have hqg : q < g := by rw [hg]; exact rs.lt
  have M2 : Hid (MkAt w w2 g q s (Value.pointer (some ⟨bl, 0, none⟩)) (Value.pointer none) 0 s.1 s.2 0) := by
    have b12 : Below w1.heap.size w1 w2 := by rw [hw2]; exact below_new _ _
    exact ⟨by rw [hw2, hg]; exact Lrow.new w1 _ _, rs.call b12, b1.trans (b12.mono b1.size), by rw [hg]; exact b1.size, by omega⟩
  have HA := Lib.hid (And.intro hw1 hq)
  have HW := Lib.hid (And.intro hw2 hg)
  have HX := Lib.hid (And.intro hx (And.intro hy (And.intro okl okr)))
  have HF := Lib.hid (And.intro ezf (And.intro ezl (And.intro ht0 (And.intro hgp (And.intro hTl hTr)))))
  have hs1 : (0 : Int) ≤ s.1 ∧ (s.1 : Int) ≤ 4096 := by omega
  have hs2 : (0 : Int) ≤ s.2 ∧ (s.2 : Int) ≤ 4096 := by omega
  have hzf : (0 : Int) ≤ zf ∧ zf ≤ 4096 := by omega
  have hzl : (0 : Int) ≤ zl ∧ zl ≤ 4096 := by omega
  have hfx : Hid (zf = ((Nd.node ll sl rl).fi : Nat)) := by show _ = _; rw [ezf, hfi]
  have hlx : Hid (zl = (s.2 : Nat)) := by show _ = _; rw [ezl, hla]
  obtain ⟨H, hH⟩ : ∃ H : Nat, H = 1 + max Tl.ht Tr.ht := ⟨_, rfl⟩
  have hH1 : H ≤ 4095 := by omega
  have HH := Lib.hid hH
  have q0 := rs.cell 0
  have q1 := rs.cell 1
  obtain ⟨s1, s2⟩ := s
  dsimp only at *
  clear hw1 hq b1 rs hw2 hg ezf ezl ht0 hgp hTl hTr hh fl0 ll0 hfi hla hlen oks h1 h2 hx hy okl okr ok hqg hH
  go_enter Try.func47, Try.ntmps47
  go_upto_region 1 with (fail)
  rw [← HA.out.1, ← HA.out.2]
  go_upto_region 2 with (fail)
  rw [← HW.out.1, ← HW.out.2]
  clear q0 q1 HA HW
  go_upto_region 3 with (fail)
  have k5 : w2.cell? ⟨bl, 5, none⟩ = some (.int .i64 zf) := by rw [hfx.out]; have := HX.out.1.call M2.out.2.2.1; rw [HF.out.2.2.2.2.1] at this; exact nd_cell5 this
  have n5 := M2.out.1.cell 5
  have nf := M2.out.1.frozen 5
  obtain ⟨w3, hw3⟩ : ∃ w3, w3 = w2.setCell ⟨g, 5, none⟩ (.int .i64 zf) := ⟨_, rfl⟩
  have M3 : Hid (MkAt w w3 g q (s1, s2) (Value.pointer (some ⟨bl, 0, none⟩)) (Value.pointer none) 0 zf s2 0) := by rw [hw3]; exact M2.out.set5 _
  have HW3 := Lib.hid hw3
  clear hw3
  go_upto_region 4 with (fail)
  rw [← HW3.out]
  clear k5 n5 nf HW3 M2
  go_upto_region 6 with (fail)
  have M6 : Hid (MkAt w w3 g q (s1, s2) (Value.pointer (some ⟨bl, 0, none⟩)) (Value.pointer none) 0 zf zl 0) := by have e1 := hfx.out; have e2 := hlx.out; have := M3.out; (try dsimp only at *); rw [← e2] at this; exact this
  clear M3
  -- heights
  have ht1 : Hid (∀ k, NdAt (w3.drewN k) Tl (Value.pointer (some ⟨bl, 0, none⟩))) := fun k => (HX.out.1.call M6.out.2.2.1).drewN k
  have ht2 : Hid (∀ k, NdAt (w3.drewN k) Tr (Value.pointer none)) := fun k => (HX.out.2.1.call M6.out.2.2.1).drewN k
  have c1 := tall_p (ht1.out 0)
  have c2 := tall_p (ht2.out 0)
  have n4 := M6.out.1.cell 4
  have nf := M6.out.1.frozen 4
  obtain ⟨hl, ehl⟩ : ∃ z : Int, z = (Tl.ht : Nat) := ⟨_, rfl⟩
  obtain ⟨hr, ehr⟩ : ∃ z : Int, z = (Tr.ht : Nat) := ⟨_, rfl⟩
  rw [← ehl] at c1
  rw [← ehr] at c2
  have hz1 : 0 ≤ hl ∧ hl ≤ 4095 := by have := HH.out; omega
  have hz2 : 0 ≤ hr ∧ hr ≤ 4095 := by have := HH.out; omega
  have HHL := Lib.hid (And.intro ehl ehr)
  have HHI : Hid ((H : Int) = 1 + max hl hr) := by have := HH.out; show _ = _; omega
  clear ehl ehr
  go_upto_region 6 with (fail)
  go_cut [] from 35 to 44 (fun wx => MkAt w wx g q (s1, s2) (Value.pointer (some ⟨bl, 0, none⟩)) (Value.pointer none) H zf zl 0)
  case first =>
    by_cases hc : hl < hr
    · have e1 : IntKind.i64.wrap (1 + hr) = 1 + hr := IntWalk.i64_in _ (by omega)
      go_wp2_with (first | (go_at_call_of 40 (Value.pointer (some ⟨bl, 0, none⟩)); refine c1.mono ?_; rintro e wt ⟨rfl, rfl⟩) | (go_at_call_of 40 (Value.pointer none); refine c2.mono ?_; rintro e wt ⟨rfl, rfl⟩) | fail)
      go_meet
      have e2 : (1 + hr : Int) = H := by have := HHI.out; omega
      rw [e2]
      exact M6.out.set4 _
    · have e1 : IntKind.i64.wrap (1 + hl) = 1 + hl := IntWalk.i64_in _ (by omega)
      go_wp2_with (first | (go_at_call_of 40 (Value.pointer (some ⟨bl, 0, none⟩)); refine c1.mono ?_; rintro e wt ⟨rfl, rfl⟩) | (go_at_call_of 40 (Value.pointer none); refine c2.mono ?_; rintro e wt ⟨rfl, rfl⟩) | fail)
      go_meet
      have e2 : (1 + hl : Int) = H := by have := HHI.out; omega
      rw [e2]
      exact M6.out.set4 _
  case rest =>
    have M7 := Lib.hid hcut
    have r1 := room_w (HX.out.1.call M7.out.2.2.1) HX.out.2.2.1 hzf.1 hzf.2 hs1.1 hs1.2
    have r2 := room_w (HX.out.2.1.call M7.out.2.2.1) HX.out.2.2.2 hs2.1 hs2.2 hzl.1 hzl.2
    have HGP : Hid ((Nd.node Tl (s1, s2) Tr).gp = max (Tl.rm zf s1) (Tr.rm s2 zl)) := by show _ = _; rw [HF.out.1, HF.out.2.1]; exact HF.out.2.2.2.1
    obtain ⟨ZL, hZL⟩ : ∃ Z, Z = Tl.rm zf s1 := ⟨_, rfl⟩
    obtain ⟨ZR, hZR⟩ : ∃ Z, Z = Tr.rm s2 zl := ⟨_, rfl⟩
    rw [← hZL, ← hZR] at HGP
    rw [← hZL] at r1
    rw [← hZR] at r2
    have hs : wc.cell? ⟨g, 5, none⟩ = some (.int .i64 zf) ∧ wc.cell? ⟨g, 6, none⟩ = some (.int .i64 zl) ∧ wc.cell? ⟨q, 0, none⟩ = some (.int .i64 s1) ∧ wc.cell? ⟨q, 1, none⟩ = some (.int .i64 s2) := ⟨M7.out.1.cell 5, M7.out.1.cell 6, M7.out.2.1.cell 0, M7.out.2.1.cell 1⟩
    have n7 := M7.out.1.cell 7
    have nf := M7.out.1.frozen 7
    have hrg := M7.out.1
    have hrq := M7.out.2.1
    have hnq := M7.out.2.2.2.2
    clear hcut hZL hZR c1 c2 n4 M6
    go_upto_region 7 with (fail)
    go_region_held3 (fun v => v.cell? ⟨g, 5, none⟩ = some (.int .i64 zf) ∧ v.cell? ⟨g, 6, none⟩ = some (.int .i64 zl) ∧ v.cell? ⟨q, 0, none⟩ = some (.int .i64 s1) ∧ v.cell? ⟨q, 1, none⟩ = some (.int .i64 s2))
      (first | exact hs | exact keep_mk hrg hrq hnq rfl rfl rfl rfl)
      (first | (go_at_call 32; (with_reducible refine (r1 _ ?_).mono ?_); (focus rfl); rintro e wv ⟨rfl, n1, rfl⟩) | (go_at_call 32; (with_reducible refine (r2 _ ?_).mono ?_); (focus rfl); rintro e wv ⟨rfl, n2, rfl⟩) | fail)
    all_goals go_wp2_with fail
    all_goals
      go_ret
      have e7 := HGP.out
      have eH : (H : Int) = (1 + max Tl.ht Tr.ht : Nat) := by rw [HH.out]
      exact ⟨g, rfl, MkAt.fin ((M7.out.drewN _).set7 _) HX.out.1 HX.out.2.1 eH HF.out.1 HF.out.2.1 (by omega)⟩
set_option maxHeartbeats 4000000 in
set_option maxRecDepth 100000 in
theorem made_ss {ll rl : Nd} {sl : Nat × Nat} {bl : Nat} {lr rr : Nd} {sr : Nat × Nat} {br : Nat} {Tl Tr : Nd} (hTl : Tl = (Nd.node ll sl rl)) (hTr : Tr = (Nd.node lr sr rr)) (hx : NdAt w Tl (Value.pointer (some ⟨bl, 0, none⟩))) (hy : NdAt w Tr (Value.pointer (some ⟨br, 0, none⟩))) (ok : OkS (Nd.node Tl s Tr).L) : Calls Try.prog 47 #[(Value.pointer (some ⟨bl, 0, none⟩)), .agg #[.int .i64 s.1, .int .i64 s.2], (Value.pointer (some ⟨br, 0, none⟩))] w fun e w' => ∃ g, e = .returned (.pointer (some ⟨g, 0, none⟩)) ∧ w.heap.size ≤ g ∧ NdAt w' (.node Tl s Tr) (.pointer (some ⟨g, 0, none⟩)) ∧ Below w.heap.size w w' := by
  obtain ⟨okl, okr, oks, h1, h2⟩ := ok.nd
  have fl0 := Nd.fi_le ok
  have ll0 := Nd.la_le ok
  have hh := Nd.ht_le (Nd.node Tl s Tr)
  have hlen := ok.len
  have ht0 : (Nd.node Tl s Tr).ht = 1 + max Tl.ht Tr.ht := rfl
  have hfi : (Nd.node Tl s Tr).fi = (Nd.node ll sl rl).fi := by rw [hTl]; rfl
  have hla : (Nd.node Tl s Tr).la = (Nd.node lr sr rr).la := by rw [hTr]; rfl
  have hgp : (Nd.node Tl s Tr).gp = max (Tl.rm (Nd.node Tl s Tr).fi s.1) (Tr.rm s.2 (Nd.node Tl s Tr).la) := rfl
  obtain ⟨zf, ezf⟩ : ∃ z : Int, z = ((Nd.node Tl s Tr).fi : Nat) := ⟨_, rfl⟩
  obtain ⟨zl, ezl⟩ : ∃ z : Int, z = ((Nd.node Tl s Tr).la : Nat) := ⟨_, rfl⟩
  obtain ⟨w1, hw1⟩ : ∃ w1, w1 = w.alloc (.cells #[.int .i64 s.1, .int .i64 s.2] 61) := ⟨_, rfl⟩
  obtain ⟨q, hq⟩ : ∃ q, q = w.heap.size := ⟨_, rfl⟩
  have rs : Lrow w1 q 61 [.int .i64 s.1, .int .i64 s.2] := by rw [hw1, hq]; exact Lrow.new w _ _
  have b1 : Below w.heap.size w w1 := by rw [hw1]; exact below_new _ _
  obtain ⟨g, hg⟩ : ∃ g, g = w1.heap.size := ⟨_, rfl⟩
  obtain ⟨w2, hw2⟩ : ∃ w2, w2 = w1.alloc (.cells #[.int .i64 s.1, .int .i64 s.2, (Value.pointer (some ⟨bl, 0, none⟩)), (Value.pointer (some ⟨br, 0, none⟩)), .int .i64 0, .int .i64 s.1, .int .i64 s.2, .int .i64 0] 63) := ⟨_, rfl⟩
  have hqg : q < g := by rw [hg]; exact rs.lt
  have M2 : Hid (MkAt w w2 g q s (Value.pointer (some ⟨bl, 0, none⟩)) (Value.pointer (some ⟨br, 0, none⟩)) 0 s.1 s.2 0) := by
    have b12 : Below w1.heap.size w1 w2 := by rw [hw2]; exact below_new _ _
    exact ⟨by rw [hw2, hg]; exact Lrow.new w1 _ _, rs.call b12, b1.trans (b12.mono b1.size), by rw [hg]; exact b1.size, by omega⟩
  have HA := Lib.hid (And.intro hw1 hq)
  have HW := Lib.hid (And.intro hw2 hg)
  have HX := Lib.hid (And.intro hx (And.intro hy (And.intro okl okr)))
  have HF := Lib.hid (And.intro ezf (And.intro ezl (And.intro ht0 (And.intro hgp (And.intro hTl hTr)))))
  have hs1 : (0 : Int) ≤ s.1 ∧ (s.1 : Int) ≤ 4096 := by omega
  have hs2 : (0 : Int) ≤ s.2 ∧ (s.2 : Int) ≤ 4096 := by omega
  have hzf : (0 : Int) ≤ zf ∧ zf ≤ 4096 := by omega
  have hzl : (0 : Int) ≤ zl ∧ zl ≤ 4096 := by omega
  have hfx : Hid (zf = ((Nd.node ll sl rl).fi : Nat)) := by show _ = _; rw [ezf, hfi]
  have hlx : Hid (zl = ((Nd.node lr sr rr).la : Nat)) := by show _ = _; rw [ezl, hla]
  obtain ⟨H, hH⟩ : ∃ H : Nat, H = 1 + max Tl.ht Tr.ht := ⟨_, rfl⟩
  have hH1 : H ≤ 4095 := by omega
  have HH := Lib.hid hH
  have q0 := rs.cell 0
  have q1 := rs.cell 1
  obtain ⟨s1, s2⟩ := s
  dsimp only at *
  clear hw1 hq b1 rs hw2 hg ezf ezl ht0 hgp hTl hTr hh fl0 ll0 hfi hla hlen oks h1 h2 hx hy okl okr ok hqg hH
  go_enter Try.func47, Try.ntmps47
  go_upto_region 1 with (fail)
  rw [← HA.out.1, ← HA.out.2]
  go_upto_region 2 with (fail)
  rw [← HW.out.1, ← HW.out.2]
  clear q0 q1 HA HW
  go_upto_region 3 with (fail)
  have k5 : w2.cell? ⟨bl, 5, none⟩ = some (.int .i64 zf) := by rw [hfx.out]; have := HX.out.1.call M2.out.2.2.1; rw [HF.out.2.2.2.2.1] at this; exact nd_cell5 this
  have n5 := M2.out.1.cell 5
  have nf := M2.out.1.frozen 5
  obtain ⟨w3, hw3⟩ : ∃ w3, w3 = w2.setCell ⟨g, 5, none⟩ (.int .i64 zf) := ⟨_, rfl⟩
  have M3 : Hid (MkAt w w3 g q (s1, s2) (Value.pointer (some ⟨bl, 0, none⟩)) (Value.pointer (some ⟨br, 0, none⟩)) 0 zf s2 0) := by rw [hw3]; exact M2.out.set5 _
  have HW3 := Lib.hid hw3
  clear hw3
  go_upto_region 4 with (fail)
  rw [← HW3.out]
  clear k5 n5 nf HW3 M2
  go_upto_region 5 with (fail)
  have k6 : w3.cell? ⟨br, 6, none⟩ = some (.int .i64 zl) := by rw [hlx.out]; have := HX.out.2.1.call M3.out.2.2.1; rw [HF.out.2.2.2.2.2] at this; exact nd_cell6 this
  have n6 := M3.out.1.cell 6
  have nf := M3.out.1.frozen 6
  obtain ⟨w4, hw4⟩ : ∃ w4, w4 = w3.setCell ⟨g, 6, none⟩ (.int .i64 zl) := ⟨_, rfl⟩
  have M4 : Hid (MkAt w w4 g q (s1, s2) (Value.pointer (some ⟨bl, 0, none⟩)) (Value.pointer (some ⟨br, 0, none⟩)) 0 zf zl 0) := by rw [hw4]; exact M3.out.set6 _
  have HW4 := Lib.hid hw4
  clear hw4
  go_upto_region 6 with (fail)
  rw [← HW4.out]
  clear k6 n6 nf HW4 M3
  have M6 : Hid (MkAt w w4 g q (s1, s2) (Value.pointer (some ⟨bl, 0, none⟩)) (Value.pointer (some ⟨br, 0, none⟩)) 0 zf zl 0) := by have e1 := hfx.out; have e2 := hlx.out; have := M4.out; (try dsimp only at *); skip; exact this
  clear M4
  -- heights
  have ht1 : Hid (∀ k, NdAt (w4.drewN k) Tl (Value.pointer (some ⟨bl, 0, none⟩))) := fun k => (HX.out.1.call M6.out.2.2.1).drewN k
  have ht2 : Hid (∀ k, NdAt (w4.drewN k) Tr (Value.pointer (some ⟨br, 0, none⟩))) := fun k => (HX.out.2.1.call M6.out.2.2.1).drewN k
  have c1 := tall_p (ht1.out 0)
  have c2 := tall_p (ht2.out 0)
  have n4 := M6.out.1.cell 4
  have nf := M6.out.1.frozen 4
  obtain ⟨hl, ehl⟩ : ∃ z : Int, z = (Tl.ht : Nat) := ⟨_, rfl⟩
  obtain ⟨hr, ehr⟩ : ∃ z : Int, z = (Tr.ht : Nat) := ⟨_, rfl⟩
  rw [← ehl] at c1
  rw [← ehr] at c2
  have hz1 : 0 ≤ hl ∧ hl ≤ 4095 := by have := HH.out; omega
  have hz2 : 0 ≤ hr ∧ hr ≤ 4095 := by have := HH.out; omega
  have HHL := Lib.hid (And.intro ehl ehr)
  have HHI : Hid ((H : Int) = 1 + max hl hr) := by have := HH.out; show _ = _; omega
  clear ehl ehr
  go_upto_region 6 with (fail)
  go_cut [] from 35 to 44 (fun wx => MkAt w wx g q (s1, s2) (Value.pointer (some ⟨bl, 0, none⟩)) (Value.pointer (some ⟨br, 0, none⟩)) H zf zl 0)
  case first =>
    by_cases hc : hl < hr
    · have e1 : IntKind.i64.wrap (1 + hr) = 1 + hr := IntWalk.i64_in _ (by omega)
      go_wp2_with (first | (go_at_call_of 40 (Value.pointer (some ⟨bl, 0, none⟩)); refine c1.mono ?_; rintro e wt ⟨rfl, rfl⟩) | (go_at_call_of 40 (Value.pointer (some ⟨br, 0, none⟩)); refine c2.mono ?_; rintro e wt ⟨rfl, rfl⟩) | fail)
      go_meet
      have e2 : (1 + hr : Int) = H := by have := HHI.out; omega
      rw [e2]
      exact M6.out.set4 _
    · have e1 : IntKind.i64.wrap (1 + hl) = 1 + hl := IntWalk.i64_in _ (by omega)
      go_wp2_with (first | (go_at_call_of 40 (Value.pointer (some ⟨bl, 0, none⟩)); refine c1.mono ?_; rintro e wt ⟨rfl, rfl⟩) | (go_at_call_of 40 (Value.pointer (some ⟨br, 0, none⟩)); refine c2.mono ?_; rintro e wt ⟨rfl, rfl⟩) | fail)
      go_meet
      have e2 : (1 + hl : Int) = H := by have := HHI.out; omega
      rw [e2]
      exact M6.out.set4 _
  case rest =>
    have M7 := Lib.hid hcut
    have r1 := room_w (HX.out.1.call M7.out.2.2.1) HX.out.2.2.1 hzf.1 hzf.2 hs1.1 hs1.2
    have r2 := room_w (HX.out.2.1.call M7.out.2.2.1) HX.out.2.2.2 hs2.1 hs2.2 hzl.1 hzl.2
    have HGP : Hid ((Nd.node Tl (s1, s2) Tr).gp = max (Tl.rm zf s1) (Tr.rm s2 zl)) := by show _ = _; rw [HF.out.1, HF.out.2.1]; exact HF.out.2.2.2.1
    obtain ⟨ZL, hZL⟩ : ∃ Z, Z = Tl.rm zf s1 := ⟨_, rfl⟩
    obtain ⟨ZR, hZR⟩ : ∃ Z, Z = Tr.rm s2 zl := ⟨_, rfl⟩
    rw [← hZL, ← hZR] at HGP
    rw [← hZL] at r1
    rw [← hZR] at r2
    have hs : wc.cell? ⟨g, 5, none⟩ = some (.int .i64 zf) ∧ wc.cell? ⟨g, 6, none⟩ = some (.int .i64 zl) ∧ wc.cell? ⟨q, 0, none⟩ = some (.int .i64 s1) ∧ wc.cell? ⟨q, 1, none⟩ = some (.int .i64 s2) := ⟨M7.out.1.cell 5, M7.out.1.cell 6, M7.out.2.1.cell 0, M7.out.2.1.cell 1⟩
    have n7 := M7.out.1.cell 7
    have nf := M7.out.1.frozen 7
    have hrg := M7.out.1
    have hrq := M7.out.2.1
    have hnq := M7.out.2.2.2.2
    clear hcut hZL hZR c1 c2 n4 M6
    go_upto_region 7 with (fail)
    go_region_held3 (fun v => v.cell? ⟨g, 5, none⟩ = some (.int .i64 zf) ∧ v.cell? ⟨g, 6, none⟩ = some (.int .i64 zl) ∧ v.cell? ⟨q, 0, none⟩ = some (.int .i64 s1) ∧ v.cell? ⟨q, 1, none⟩ = some (.int .i64 s2))
      (first | exact hs | exact keep_mk hrg hrq hnq rfl rfl rfl rfl)
      (first | (go_at_call 32; (with_reducible refine (r1 _ ?_).mono ?_); (focus rfl); rintro e wv ⟨rfl, n1, rfl⟩) | (go_at_call 32; (with_reducible refine (r2 _ ?_).mono ?_); (focus rfl); rintro e wv ⟨rfl, n2, rfl⟩) | fail)
    all_goals go_wp2_with fail
    all_goals
      go_ret
      have e7 := HGP.out
      have eH : (H : Int) = (1 + max Tl.ht Tr.ht : Nat) := by rw [HH.out]
      exact ⟨g, rfl, MkAt.fin ((M7.out.drewN _).set7 _) HX.out.1 HX.out.2.1 eH HF.out.1 HF.out.2.1 (by omega)⟩
theorem made_p (hx : NdAt w l x) (hy : NdAt w r y) (ok : OkS (Nd.node l s r).L) : Calls Try.prog 47 #[x, .agg #[.int .i64 s.1, .int .i64 s.2], y] w fun e w' => ∃ g, e = .returned (.pointer (some ⟨g, 0, none⟩)) ∧ w.heap.size ≤ g ∧ NdAt w' (.node l s r) (.pointer (some ⟨g, 0, none⟩)) ∧ Below w.heap.size w w' := by
  rcases hx.ptr with ⟨el, ex⟩ | ⟨bl, ll, sl, rl, el, ex, -⟩
  · rcases hy.ptr with ⟨er, ey⟩ | ⟨br, lr, sr, rr, er, ey, -⟩
    · subst ex; subst ey; exact made_nn el er hx hy ok
    · subst ex; subst ey; exact made_ns el er hx hy ok
  · rcases hy.ptr with ⟨er, ey⟩ | ⟨br, lr, sr, rr, er, ey, -⟩
    · subst ex; subst ey; exact made_sn el er hx hy ok
    · subst ex; subst ey; exact made_ss el er hx hy ok
end
end Go.Proofs.Ytekfkglielmfaaa
