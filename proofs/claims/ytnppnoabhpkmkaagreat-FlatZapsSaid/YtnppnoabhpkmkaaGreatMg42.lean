/- Spaces: both behind some operations. -/
import Derived.Test.YtnppnoabhpkmkaaGreatMg41
import Derived.Deep.RegionHeld3
namespace Go.Proofs.YtnppnoabhpkmkaaGreat
open Go.RowKit
section
variable {w w' : World} {B : Nat} {T : RfT} {F : Fl}
theorem RfAt.base {B' : Nat} (h : RfAt B w T F) (hb : B' ≤ B) : RfAt B' w T F :=
  ⟨h.top, h.ls.base hb, h.os.base hb, h.nl, h.no, fun i h1 h2 => (h.sps i h1 h2).base hb, fun i h1 h2 => (h.obs i h1 h2).base hb, h.dS, h.dA, h.dW, Nat.le_trans hb h.lo⟩
/-- A call of the reference's Do, its operation written out. -/
theorem rdo9 (h : RfAt B w T F) {m : Nat} (hF : FlB m F) (hm : m ≤ 1000) (k sp a n hw p t c v : Int) (hr : IsRq ⟨k, sp, a, n, hw, p, t, c, v⟩) : Calls Tryz.prog 16 #[.pointer (some ⟨T.xa, 0, none⟩), .agg #[.int .i64 k, .int .i64 sp, .int .i64 a, .int .i64 n, .int .i64 hw, .int .i64 p, .int .i64 t, .int .i64 c, .int .u64 v]] w
    fun e w' => e = .returned (.agg #[.int .i64 (stF F ⟨k, sp, a, n, hw, p, t, c, v⟩).1, .int .u64 (stF F ⟨k, sp, a, n, hw, p, t, c, v⟩).2.1]) ∧ DidF B w T (stF F ⟨k, sp, a, n, hw, p, t, c, v⟩).2.2 w' := rdo_is h ⟨k, sp, a, n, hw, p, t, c, v⟩ hF.ok hr.ok (Nat.le_trans hF.ob hm)
end
/-- What the laws' operations make. -/
def mdS (M : List Rq) : Fl := M.foldl (fun F r => (stF F r).2.2) ⟨[], []⟩
theorem mdS_next (M : List Rq) {j : Nat} (hj : j < M.length) : mdS (M.take (j + 1)) = (stF (mdS (M.take j)) M[j]).2.2 := by
  unfold mdS
  rw [List.take_succ_eq_append_getElem hj, List.foldl_append]
  rfl
theorem mdS_b (M : List Rq) (j : Nat) (hj : j ≤ M.length) : FlB j (mdS (M.take j)) := by
  induction j with
  | zero => exact FlB.nil
  | succ j ih =>
    rw [mdS_next M (by omega)]
    exact (ih (by omega)).step _
theorem mdE_b (M : List Rq) (j : Nat) : FlB j (mdS (M.take j)) := by
  by_cases h : j ≤ M.length
  · exact mdS_b M j h
  · rw [List.take_of_length_le (by omega)]
    have := mdS_b M M.length (Nat.le_refl _)
    rw [List.take_length] at this
    exact this.mono (by omega)
/-- The nine cells of an operation. -/
def Nine (w : World) (p : Addr) (k s a n h q t c v : Int) : Prop := w.cell? p = some (.int .i64 k) ∧ w.cell? ⟨p.block, p.off + 1, none⟩ = some (.int .i64 s) ∧ w.cell? ⟨p.block, p.off + 2, none⟩ = some (.int .i64 a) ∧ w.cell? ⟨p.block, p.off + 3, none⟩ = some (.int .i64 n) ∧ w.cell? ⟨p.block, p.off + 4, none⟩ = some (.int .i64 h) ∧ w.cell? ⟨p.block, p.off + 5, none⟩ = some (.int .i64 q) ∧ w.cell? ⟨p.block, p.off + 6, none⟩ = some (.int .i64 t) ∧ w.cell? ⟨p.block, p.off + 7, none⟩ = some (.int .i64 c) ∧ w.cell? ⟨p.block, p.off + 8, none⟩ = some (.int .u64 v)
theorem RqAt.nine {w : World} {p : Addr} {l : Rq} (h : RqAt w p l) : Nine w p l.k l.s l.a l.n l.h l.p l.t l.c l.v := ⟨h.c0, h.c1, h.c2, h.c3, h.c4, h.c5, h.c6, h.c7, h.c8⟩
theorem St.new {I : FlI} {w0 w1 w2 : World} {s : Nat} {X : Nat → Prop} {T : RfT} (hb1 : Below w0.heap.size w0 w1) (h : I.Fo w0.heap.size w1 s X ⟨[], []⟩) (hT : RfAt w1.heap.size w2 T ⟨[], []⟩) (hb2 : Below w1.heap.size w1 w2) : St I w0.heap.size w2 s T.xa ⟨[], []⟩ ⟨[], []⟩ := by
  refine ⟨X, T, rfl, I.call h hb2, hT.base hb1.size, fun k hk e => ?_⟩
  have h1 := (I.lo h k hk).2
  have h2 := hT.low k e
  omega
set_option maxHeartbeats 4000000 in
set_option maxRecDepth 100000 in
theorem made_any (I : FlI) (A : Option Addr) (n c b most : Nat) (M : List Rq) (w : World) (hM : M.length = n) (hA : Lsa w b A M) (hb : b ≤ w.heap.size) (hmost : most ≤ 60) :
    Calls Tryz.prog 9 #[.slice A n c, .int .i64 most] w fun e w' => ∃ s x, e = .returned (.tuple #[.pointer (some ⟨s, 0, none⟩), .pointer (some ⟨x, 0, none⟩), .bool true]) ∧ St I w.heap.size w' s x (mdS (M.take most)) (mdS (M.take most)) ∧ Below w.heap.size w w' := by
  have hnew := I.new w
  have HA := Lib.hid hA
  have HB := Lib.hid hb
  have HM := Lib.hid hM
  have HMO := Lib.hid hmost
  clear hA hb hM hmost
  go_enter Tryz.func9, Tryz.ntmps9
  go_wp2_with fail
  refine hnew.mono ?_
  rintro e w1 ⟨s, X1, rfl, h1, hb1⟩
  have H1 := Lib.hid (And.intro h1 hb1)
  have hrn := rnew_is w1
  clear hnew h1 hb1
  go_wp2_with fail
  refine hrn.mono ?_
  rintro e w2 ⟨T, rfl, hT, hb2, -⟩
  have HG : Hid (St I w.heap.size w2 s T.xa (mdS (M.take 0)) (mdS (M.take 0)) ∧ Below w.heap.size w w2) := ⟨St.new H1.out.2 H1.out.1 hT hb2, H1.out.2.trans (hb2.mono H1.out.2.size)⟩
  generalize T.xa = x at HG ⊢
  clear hrn hT hb2
  go_wp2_with fail
  go_loopw [9] (fun i wr => ∃ j : Nat, j ≤ n ∧ j ≤ most ∧ i = .int .i64 j ∧ St I w.heap.size wr s x (mdS (M.take j)) (mdS (M.take j)) ∧ Below w.heap.size w wr) (fun i _ => n - (RowKit.intOf i).toNat)
  case atStart => exact ⟨0, by omega, by omega, rfl, HG.out.1, HG.out.2⟩
  case round =>
    obtain ⟨j, hj, hj60, rfl, hst, hb⟩ := hrel
    have HST := Lib.hid hst
    have HBL := Lib.hid hb
    clear HG hst
    by_cases hboth : j < n ∧ j < most
    · obtain ⟨hlt, hlim⟩ := hboth
      have hjM : j < M.length := by have := HM.out; omega
      obtain ⟨ad, rfl, hc⟩ := (HA.out.below (Below.mono hb HB.out)) (by omega)
      obtain ⟨ok, hab, hat⟩ := hc j hjM
      have hab' : (ad.add (j * 9)).block < w.heap.size := Nat.lt_of_lt_of_le hab HB.out
      have HNX := Lib.hid (mdS_next M hjM)
      have HBJ := Lib.hid (mdE_b M j)
      obtain ⟨l, hl⟩ : ∃ l, l = M[j] := ⟨_, rfl⟩
      rw [← hl] at hat ok HNX
      obtain ⟨lk, ls, la, ln, lh, lp, lt, lc, lv⟩ := l
      have HN : Hid (∀ V, Below w.heap.size wr V → V.cell? (ad.add (j * 9)) = some (.int .i64 lk) ∧ V.cell? ⟨(ad.add (j * 9)).block, (ad.add (j * 9)).off + 1, none⟩ = some (.int .i64 ls) ∧ V.cell? ⟨(ad.add (j * 9)).block, (ad.add (j * 9)).off + 2, none⟩ = some (.int .i64 la) ∧ V.cell? ⟨(ad.add (j * 9)).block, (ad.add (j * 9)).off + 3, none⟩ = some (.int .i64 ln) ∧ V.cell? ⟨(ad.add (j * 9)).block, (ad.add (j * 9)).off + 4, none⟩ = some (.int .i64 lh) ∧ V.cell? ⟨(ad.add (j * 9)).block, (ad.add (j * 9)).off + 5, none⟩ = some (.int .i64 lp) ∧ V.cell? ⟨(ad.add (j * 9)).block, (ad.add (j * 9)).off + 6, none⟩ = some (.int .i64 lt) ∧ V.cell? ⟨(ad.add (j * 9)).block, (ad.add (j * 9)).off + 7, none⟩ = some (.int .i64 lc) ∧ V.cell? ⟨(ad.add (j * 9)).block, (ad.add (j * 9)).off + 8, none⟩ = some (.int .u64 lv)) := fun V hV => (hat.below hV hab').nine
      have n0 := HN.out wr (Below.refl _ _)
      have HOK := Lib.hid ok
      have hbd : Below wr.heap.size wr wr.drew := below_dN (Below.refl _ _) 1
      obtain ⟨X, T, ex, k1, k2, k3⟩ := HST.out.call hbd
      obtain ⟨F, hF⟩ : ∃ F, F = mdS (M.take j) := ⟨_, rfl⟩
      have HK := Lib.hid (And.intro k1 (And.intro k2 (And.intro k3 ex)))
      rw [← hF] at HK HBJ HNX
      have hdo := I.do9 HK.out.1 HBJ.out (by have := HMO.out; omega) lk ls la ln lh lp lt lc lv HOK.out
      have HBD : Hid (Below w.heap.size wr wr.drew) := hbd.mono HBL.out.size
      have n1 := HN.out _ HBD.out
      have HHF := Lib.hid hF
      have hjl : (j : Int) < n := by omega
      have hjm : (j : Int) < most := by omega
      have hj0 : (0 : Int) ≤ j := by omega
      have hj6 : (j : Int) < 60 := by have := HMO.out; omega
      clear hat hab hab' ok hc hl hbd k1 k2 k3 ex hF hb
      obtain ⟨E, hE⟩ : ∃ E, E = (stF F ⟨lk, ls, la, ln, lh, lp, lt, lc, lv⟩).1 := ⟨_, rfl⟩
      obtain ⟨V, hV⟩ : ∃ V, V = (stF F ⟨lk, ls, la, ln, lh, lp, lt, lc, lv⟩).2.1 := ⟨_, rfl⟩
      rw [← hE, ← hV] at hdo
      have HEV := Lib.hid (And.intro hE hV)
      clear hE hV
      go_wp2_with fail
      go_region_held3 (fun V => V.cell? (ad.add (j * 9)) = some (.int .i64 lk) ∧ V.cell? ⟨(ad.add (j * 9)).block, (ad.add (j * 9)).off + 1, none⟩ = some (.int .i64 ls) ∧ V.cell? ⟨(ad.add (j * 9)).block, (ad.add (j * 9)).off + 2, none⟩ = some (.int .i64 la) ∧ V.cell? ⟨(ad.add (j * 9)).block, (ad.add (j * 9)).off + 3, none⟩ = some (.int .i64 ln) ∧ V.cell? ⟨(ad.add (j * 9)).block, (ad.add (j * 9)).off + 4, none⟩ = some (.int .i64 lh) ∧ V.cell? ⟨(ad.add (j * 9)).block, (ad.add (j * 9)).off + 5, none⟩ = some (.int .i64 lp) ∧ V.cell? ⟨(ad.add (j * 9)).block, (ad.add (j * 9)).off + 6, none⟩ = some (.int .i64 lt) ∧ V.cell? ⟨(ad.add (j * 9)).block, (ad.add (j * 9)).off + 7, none⟩ = some (.int .i64 lc) ∧ V.cell? ⟨(ad.add (j * 9)).block, (ad.add (j * 9)).off + 8, none⟩ = some (.int .u64 lv))
        (first | assumption | (dsimp only; assumption))
        (first | (go_at_call 11; (with_reducible refine hdo.mono ?_); rintro e w3 ⟨rfl, hd⟩; obtain ⟨X3, m1, m2, m3, mb⟩ := half HK.out.1 HK.out.2.1 HK.out.2.2.1 hd; have hro := rdo9 m2 HBJ.out (by have := HMO.out; omega) lk ls la ln lh lp lt lc lv HOK.out; rw [HK.out.2.2.2, ← HEV.out.1, ← HEV.out.2] at hro; have n3 := HN.out w3 (HBD.out.trans mb); have HM3 := Lib.hid (And.intro m1 (And.intro m2 (And.intro m3 mb))); clear hd m1 m2 m3 mb) | (go_at_call 16; (with_reducible refine hro.mono ?_); rintro e w4 ⟨rfl, hd⟩; obtain ⟨hst4, hb4⟩ := whole HM3.out.1 HM3.out.2.1 HM3.out.2.2.1 hd; have n4 := HN.out w4 ((HBD.out.trans HM3.out.2.2.2).trans hb4); have HE4 := Lib.hid (And.intro hst4 hb4); clear hd hst4 hb4) | fail)
      all_goals
        go_wp2_with fail
        go_roundw
        case rel =>
          refine ⟨j + 1, by omega, by omega, by go_num, ?_, HBL.out.trans ((HBD.out.trans HM3.out.2.2.2).trans HE4.out.2)⟩
          have := HE4.out.1
          rw [HK.out.2.2.2, ← HNX.out] at this
          exact this
        case measure => simp [RowKit.intOf]; omega
    · have HE : Hid (mdS (M.take j) = mdS (M.take most)) := by
        show _ = _
        rcases (show j = most ∨ (j = n ∧ n ≤ most) by omega) with rfl | ⟨rfl, h⟩
        · rfl
        · rw [List.take_of_length_le (by have := HM.out; omega), List.take_of_length_le (by have := HM.out; omega)]
      by_cases hlt : j < n
      case' pos => have hlim : ¬ (j : Int) < most := by omega
      all_goals
        clear hboth hb
        go_wp2_with fail
        go_ret3
        exact ⟨s, x, rfl, by rw [← HE.out]; exact HST.out, HBL.out⟩
end Go.Proofs.YtnppnoabhpkmkaaGreat
