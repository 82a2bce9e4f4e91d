/- The reference of package table: how many tables there are, and would be needed. -/
import Derived.Test.YtpcpcgbejinlmaaMk30
import Derived.Test.YtpcpcgbejinlmaaMk27
import Derived.Test.YtpcpcgbejinlmaaMk22
import Derived.Test.YtpcpcgbejinlmaaMk19
namespace Go.Proofs.Ytpcpcgbejinlmaa
open Go.RowKit
section
variable {w : World} {C x : Nat} {v : Value} {L : List Mp}
set_option maxHeartbeats 1000000 in
theorem count8_any (h : RfT w C x v L) : Calls Try.prog 77 #[.pointer (some ⟨x, 0, none⟩)] w fun e w' => (∃ k : Nat, e = .returned (.int .i64 k) ∧ k ≤ 20000) ∧ Below w.heap.size w w' := by
  obtain ⟨A, c, rfl⟩ := h.ms.form
  have hc : w.cell? ⟨x, 0, none⟩ = some (.slice A L.length c) := h.top.cell 0
  have HP := Lib.hid (prefixes_any h.ms h.ok (by have := h.len; omega))
  have HL := Lib.hid h.len
  clear h
  go_enter Try.func77, Try.ntmps77
  go_wp2_with fail
  refine HP.out.mono ?_
  rintro e w' ⟨A', n', c', rfl, hn, hb⟩
  have HB := Lib.hid hb
  have hn2 : n' ≤ 15000 := by have := HL.out; omega
  have e1 : (1 : Int) + (n' : Int) = ((n' + 1 : Nat) : Int) := by omega
  have E1 := Lib.hid e1
  clear hb hc hn e1
  go_wp2_with fail
  go_ret
  exact ⟨⟨n' + 1, ret_int E1.out, by omega⟩, HB.out⟩
theorem with_ok {L M : List Mp} {x : Mp} (h : ∀ m ∈ L, MK m) (hx : MK x) (hM : M.length = L.length + 1 ∧ ∀ m ∈ M, m ∈ L ∨ m = x) : ∀ m ∈ M, MK m := fun m hm => by
  rcases hM.2 m hm with k | k
  · exact h m k
  · rw [k]; exact hx
theorem with_len {L M : List Mp} {x : Mp} (h : L.length ≤ 5000) (hM : M.length = L.length + 1 ∧ ∀ m ∈ M, m ∈ L ∨ m = x) : M.length ≤ 5001 := by have := hM.1; omega
theorem sub_in {a b c d : Nat} (h : a ≤ 3 * c) (k : b ≤ 3 * d) (hc : c ≤ 5001) (hd : d ≤ 5001) : IntKind.i64.wrap ((a : Int) - (b : Int)) = (a : Int) - (b : Int) := IntWalk.i64_in _ (by omega)
theorem sub_bd {a b c d : Nat} (h : a ≤ 3 * c) (k : b ≤ 3 * d) (hc : c ≤ 5001) (hd : d ≤ 5001) : -20000 ≤ (a : Int) - (b : Int) ∧ (a : Int) - (b : Int) ≤ 20000 := by omega
def Needs (w : World) (g o : Int) (e : Ending) (w' : World) : Prop := ∃ n er : Int, e = .returned (.tuple #[.int .i64 n, .int .i64 er]) ∧ (er = 0 → wrO g o = 0 ∧ -20000 ≤ n ∧ n ≤ 20000) ∧ Below w.heap.size w w'
set_option maxRecDepth 100000 in
set_option maxHeartbeats 2000000 in
theorem need8_any (h : RfT w C x v L) (g o : Int) : Calls Try.prog 85 #[.pointer (some ⟨x, 0, none⟩), .int .i64 g, .int .i64 o] w (Needs w g o) := by
  by_cases hw : wrO g o = 0
  · obtain ⟨ho, hg0, hg1, hev⟩ := wrO_ok hw
    have hsz := szO_pos o
    obtain ⟨sz, esz⟩ : ∃ sz : Nat, szO o = sz := ⟨(szO o).toNat, by omega⟩
    have hsz64 : sz ≤ 64 := by omega
    have HX : Hid (MK ⟨g, o, 0, false, false, false, false, false, false⟩) := ⟨hg0, hg1, ho, hev⟩
    have H := Lib.hid h
    have HS := Lib.hid esz
    have HW := Lib.hid hw
    clear h hev ho hsz esz
    go_enter Try.func85, Try.ntmps85
    go_wp2_with fail
    refine (wrong8_any g o _).mono ?_
    rw [hw]
    rintro e w' ⟨rfl, rfl⟩
    go_wp2_with fail
    go_loopw [9] (fun i wr => ∃ k nd : Nat, k ≤ sz ∧ i = .int .i64 k ∧ wr = w.drewN nd) (fun i _ => sz - (intOf i).toNat)
    case atStart => exact ⟨0, 0, Nat.zero_le _, rfl, rfl⟩
    case round =>
      obtain ⟨k, nd, hk, rfl, rfl⟩ := hrel
      have H1 := Lib.hid (H.out.call (drewN_b (Below.refl _ _) nd))
      have HB1 := Lib.hid (drewN_b (Below.refl w.heap.size w) nd)
      obtain ⟨w1, ew⟩ : ∃ w1, w1 = w.drewN nd := ⟨_, rfl⟩
      rw [← ew] at H1 HB1 ⊢
      have HEW := Lib.hid ew
      clear ew
      have hq : ∀ W : World, Calls Try.prog 79 #[.int .i64 o] W fun e w' => e = .returned (.int .i64 sz) ∧ W = w' := fun W => by rw [← HS.out]; exact size8_any o W
      by_cases hlt : k < sz
      · go_wp2_with (go_at_call 79; refine (hq _).mono ?_; rintro e w' ⟨rfl, rfl⟩)
        refine (holds_is H1.out (g + (k : Int)) (by omega) (by omega)).mono ?_
        rintro e w' ⟨rfl, m, rfl⟩
        rcases ho_found L (g + (k : Int)) with hf | ⟨z, hf, -, -⟩
        · rw [hf]
          clear hf
          go_wp2_with fail
          go_roundw
          case rel => exact ⟨k + 1, nd + m, by omega, by go_num, by rw [HEW.out, drewN_add]⟩
          case measure => simp [intOf]; omega
        · rw [hf]
          clear hf
          go_wp2_with fail
          go_ret2
          exact ⟨0, 7, rfl, fun h => by omega, drewN_b HB1.out m⟩
      · go_wp2_with (go_at_call 79; refine (hq _).mono ?_; rintro e w' ⟨rfl, rfl⟩)
        obtain ⟨A, c, rfl⟩ := H1.out.ms.form
        have hlt1 : x < w1.drew.heap.size := H1.out.top.lt
        have hsz1 : w.heap.size ≤ w1.drew.heap.size := HB1.out.size
        have hs : w1.drew.cell? ⟨x, 0, none⟩ = some (.slice A L.length c) := H1.out.top.cell 0
        have hL := H1.out.len
        have hok := H1.out.ok
        have hm1 : Ms w1.drew C (.slice A L.length c) L := H1.out.ms
        have hL1 : L.length ≤ 5001 := by omega
        go_region_held3 (fun v => v.cell? ⟨x, 0, none⟩ = some (.slice A L.length c)) (first | exact hs | exact hs2 | exact hs3 | exact hs4) (first | (go_at_call 83; refine (with_any hm1 hok hL ⟨g, o, 0, false, false, false, false, false, false⟩).mono ?_; rintro e w2 ⟨v2, M, rfl, m2, hM, b2⟩; obtain ⟨A2, c2, rfl⟩ := m2.form; have hs2 := (b2.cell (p := ⟨x, 0, none⟩) hlt1).trans hs; have hok2 := with_ok hok HX.out hM; have hML := with_len hL hM; clear hM; have hm2 := hm1.call b2) | (go_at_call 90; with_reducible refine (prefixes_any m2 hok2 hML).mono ?_; rintro e w3 ⟨A3, n3, c3, rfl, hn3, b3⟩; have hs3 := (b3.cell (p := ⟨x, 0, none⟩) (Nat.lt_of_lt_of_le hlt1 b2.size)).trans hs2; have hm3 := hm2.call b3) | (go_at_call 90; with_reducible refine (prefixes_any hm3 hok hL1).mono ?_; rintro e w4 ⟨A4, n4, c4, rfl, hn4, b4⟩; have hwr := sub_in hn3 hn4 hML hL1; have hbd := sub_bd hn3 hn4 hML hL1; have hs4 := (b4.cell (p := ⟨x, 0, none⟩) (Nat.lt_of_lt_of_le hlt1 (Nat.le_trans b2.size b3.size))).trans hs3))
        all_goals
          have HBD := Lib.hid hbd
          have HB4 := Lib.hid (((HB1.out.drew.trans (b2.mono hsz1)).trans (b3.mono (Nat.le_trans hsz1 b2.size))).trans (b4.mono (Nat.le_trans hsz1 (Nat.le_trans b2.size b3.size))))
          clear hbd hs hs2 hs3 hs4 hm1 hm2 hm3 m2 b2 b3 b4 hok hok2 hwr
          go_wp2_with fail
          go_ret2
          exact ⟨_, 0, rfl, fun _ => ⟨HW.out, HBD.out⟩, HB4.out⟩
  · have hwn : (wrO g o != 0) = true := by simpa using hw
    go_enter Try.func85, Try.ntmps85
    go_wp2_with (go_at_call 60; refine (wrong8_any g o _).mono ?_; rintro e w' ⟨rfl, rfl⟩)
    go_ret2
    exact ⟨0, _, rfl, fun h => absurd h hw, Below.refl _ _⟩
end
end Go.Proofs.Ytpcpcgbejinlmaa
/- A leaf that is taken away: the contract of Unmap. -/
namespace Go.Proofs.Ytpcpcgbejinlmaa
open Go.RowKit
theorem add_add (a : Addr) (k j : Nat) : (a.add k).add j = a.add (k + j) := by
  by_cases hk : k = 0
  · subst hk
    have : a.add 0 = a := by simp [Addr.add]
    rw [this, Nat.zero_add]
  · by_cases hj : j = 0
    · subst hj
      have : (a.add k).add 0 = a.add k := by
        obtain ⟨x, hx⟩ : ∃ x, x = a.add k := ⟨_, rfl⟩
        rw [← hx]; simp [Addr.add]
      rw [this, Nat.add_zero]
    · unfold Addr.add
      rw [if_neg hk, if_neg hj, if_neg (by omega)]
      simp [Nat.add_assoc]
section
variable {w : World} {s : Seat} {v : Value} {ws L R : List Int}
theorem loc_drop {ad : Addr} {m k : Nat} {l : List Int} (h : Loc w s v (some ad) m l) (hk : k ≤ m) : Loc w s v (some (ad.add k)) (m - k) (l.drop k) := by
  refine ⟨⟨by rw [List.length_drop, h.ints.len], fun h0 => ?_⟩, fun h0 x e => ?_⟩
  · obtain ⟨a, ea, ha, hc⟩ := h.ints.at_ (by omega)
    injection ea with ea; subst ea
    refine ⟨_, rfl, by rw [add_block]; exact ha, fun j hj => ?_⟩
    rw [add_add, hc (k + j) (by omega), List.getD_eq_getElem?_getD, List.getD_eq_getElem?_getD, List.getElem?_drop]
  · injection e with e; subst e; rw [add_block]; exact h.off (by omega) ad rfl
theorem seven_heap (W : World) (g : Nat) (x0 x1 x2 x3 x4 x5 x6 : Value) {k : Nat} (hk : k ≠ g) : (((((((W.setCell ⟨g, 0, none⟩ x0).setCell ⟨g, 1, none⟩ x1).setCell ⟨g, 2, none⟩ x2).setCell ⟨g, 3, none⟩ x3).setCell ⟨g, 4, none⟩ x4).setCell ⟨g, 5, none⟩ x5).setCell ⟨g, 6, none⟩ x6).heap[k]? = W.heap[k]? := by
  rw [Below.heap_setCell _ _ _ k hk, Below.heap_setCell _ _ _ k hk, Below.heap_setCell _ _ _ k hk, Below.heap_setCell _ _ _ k hk, Below.heap_setCell _ _ _ k hk, Below.heap_setCell _ _ _ k hk, Below.heap_setCell _ _ _ k hk]
theorem tab_other {W W' : World} {v' : Value} {g : Nat} {vs : List Value} (h : Tab W s v' ws L R) (hr : Row W g 28 vs) (hs : W.heap.size ≤ W'.heap.size) (hk : ∀ k, k ≠ g → W'.heap[k]? = W.heap[k]?) : Tab W' s v' ws L R :=
  h.keep hs fun k hx => hk k (by
    rintro rfl
    rcases hx with e | e | e
    · exact hr.apart h.ram.top (by decide) e
    · exact hr.apart h.top (by decide) e
    · exact h.apart hr (by decide) (by decide) (by decide) e)
theorem seven_size (W : World) (g : Nat) (x0 x1 x2 x3 x4 x5 x6 : Value) : (((((((W.setCell ⟨g, 0, none⟩ x0).setCell ⟨g, 1, none⟩ x1).setCell ⟨g, 2, none⟩ x2).setCell ⟨g, 3, none⟩ x3).setCell ⟨g, 4, none⟩ x4).setCell ⟨g, 5, none⟩ x5).setCell ⟨g, 6, none⟩ x6).heap.size = W.heap.size := by
  simp [World.setCell]
end
theorem ts_frame {ws : List Int} {r p : Int} (hl : ws.length = 4096) (h : (fol ws r p).er = 0) : ∀ j, j < (fol ws r p).ts.length → inT 4096 ((fol ws r p).ts.getD j 0) 0 = true := by
  obtain ⟨g1, g2⟩ := fol_wk (ws := ws) (r := r) (p := p) (by omega)
  have hr : inT ws.length r 0 = true := by
    unfold fol at h
    split at h
    · rename_i hc; exact hc.1
    · exact absurd h (by decide)
  intro j hj
  have h5 : (wk ws p 3 r).er ≠ 5 := by rw [← g1]; omega
  match j with
  | 0 =>
    obtain ⟨ts, e⟩ := (wk_fine ws p 3 r).head h5
    rw [g1, e]
    rw [hl] at hr
    exact hr
  | j + 1 =>
    have a : (wk ws p 3 r).ts[j]? = some ((fol ws r p).ts.getD j 0) := by rw [g1, List.getD_eq_getElem?_getD, List.getElem?_eq_getElem (by rw [← g1]; omega)]; rfl
    have b : (wk ws p 3 r).ts[j + 1]? = some ((fol ws r p).ts.getD (j + 1) 0) := by rw [g1, List.getD_eq_getElem?_getD, List.getElem?_eq_getElem (by rw [← g1]; omega)]; rfl
    obtain ⟨-, c1, c2⟩ := ts_link 3 r h5 j _ _ a b
    rw [← c2]
    have hf := un_frame (wd ws ((fol ws r p).ts.getD j 0) (dg p (3 - j)))
    have hF := (say_further c1).2.2.1
    rw [show FF ws = 512 by unfold FF; rw [hl]; rfl] at hF
    rw [inT_iff]
    omega
def uzE (ws R : List Int) (r p o : Int) : Int := if plE R r p o = 0 then fjE (fol ws r p) o else plE R r p o
def uzN (ws : List Int) (r p : Int) : List Int × Nat := unC p (fol ws r p).ts ((fol ws r p).ts.length - 1) (ptL ws (lastT (fol ws r p)) (dg p (fol ws r p).lv) 0 0)
def uzL (ws L : List Int) (r p : Int) : List Int := L ++ ((fol ws r p).ts.drop ((uzN ws r p).2 + 1)).reverse
def Unmapped (w : World) (s : Seat) (v : Value) (ws L R : List Int) (r p o : Int) (e : Ending) (w' : World) : Prop :=
  ∃ (f : Int) (b0 b1 b7 b9 b5 b6 : Bool), e = .returned (.tuple #[.agg #[.int .i64 f, .bool b0, .bool b1, .bool b7, .bool b9, .bool b5, .bool b6], .int .i64 (uzE ws R r p o)]) ∧ ∃ v', (uzE ws R r p o ≠ 0 → Tab w' s v' ws L R) ∧ (uzE ws R r p o = 0 → Tab w' s v' (uzN ws r p).1 (uzL ws L r p) R) ∧ Mv s v w v' w'
theorem keepQ4 {v v' : World} {b q : Nat} {p0 p1 : Addr} {y0 y1 z0 z1 : Value}
    (h : v.cell? ⟨q, 9, none⟩ = some y0 ∧ v.cell? ⟨q, 10, none⟩ = some y1 ∧ v.cell? p0 = some z0 ∧ v.cell? p1 = some z1)
    (hg : v.grownBy v' (some b)) (hq : q ≠ b) (h0 : p0.block ≠ b) (h1 : p1.block ≠ b) :
    v'.cell? ⟨q, 9, none⟩ = some y0 ∧ v'.cell? ⟨q, 10, none⟩ = some y1 ∧ v'.cell? p0 = some z0 ∧ v'.cell? p1 = some z1 :=
  ⟨keepC h.1 hg hq, keepC h.2.1 hg hq, keepA h.2.2.1 hg h0, keepA h.2.2.2 hg h1⟩
end Go.Proofs.Ytpcpcgbejinlmaa
