/- Reservations: ResvOldest, walked. -/
import Derived.Test.YtfalmjibpkkjaaaL3
import Derived.Test.YtfalmjibpkkjaaaL4
import Derived.Deep.RegionHeld3
namespace Go.Proofs.Ytfalmjibpkkjaaa
open Go.RowKit
theorem brS_len {S : Rs} {n : Nat} (hb : Bnd n S) {y : Rv} (hy : y ∈ S.L) : atP S.L y.s y.p = some y ∧ (brS S y.s y.p).L.length + 1 = S.L.length := by
  have e : atP S.L y.s y.p = some y := hb.atP hy rfl (pd_even (hb.ok y hy).p8).symm
  refine ⟨e, ?_⟩
  have hl : ixP S.L y.s y.p < S.L.length := by
    rcases Nat.lt_or_ge (ixP S.L y.s y.p) S.L.length with h | h
    · exact h
    · have : atP S.L y.s y.p = none := ix_no (q := hitP y.s y.p) (by unfold ixP at h; omega)
      rw [this] at e; cases e
  have := filter_erase hb rfl hl
  unfold brS
  rw [← this, List.length_eraseIdx, if_pos hl]
  omega
theorem old_is {S : Rs} {m : Nat} (hm : m = S.L.length) (h : 0 < m) : ∃ k : Nat, ∃ hk : k < S.L.length, oldR S.L = some S.L[k] ∧ oldI S.L = (k : Nat) := by
  have hk : oldK S.L (S.L.length - 1) < S.L.length := by have := oldK_le S.L (S.L.length - 1); omega
  refine ⟨_, hk, ?_, ?_⟩
  · unfold oldR; rw [List.getElem?_eq_getElem hk]
  · unfold oldI; rw [if_neg (by omega)]
set_option maxHeartbeats 4000000 in
set_option maxRecDepth 100000 in
theorem oldest_walk (A : Option Addr) (n c : Nat) (w : World) (hA : Acs w w.heap.size A n) :
    Calls Try.prog 5 #[.slice A n c] w fun e w' => e = .returned (.bool true) ∧ Below w.heap.size w w' := by
  obtain ⟨M, hM, hls⟩ := hA.list
  have hm := made_any A n c w.heap.size M w hM hls (Nat.le_refl _)
  have hbd := mdE_bnd M (lsa_ok hls)
  generalize mdE M = S at hm hbd
  have HBD := Lib.hid hbd
  clear hA hM hls hbd
  go_enter Try.func5, Try.ntmps5
  go_wp2_with fail
  refine hm.mono ?_
  rintro e w1 ⟨s, x, rfl, hst, hb1⟩
  have HS1 := Lib.hid hst
  have HB1 := Lib.hid hb1
  have hak := awake_any w1
  clear hm hst hb1
  go_wp2_with fail
  refine hak.mono ?_
  rintro e w2 ⟨rfl, hb2⟩
  have HS2 := Lib.hid (HS1.out.call hb2)
  have HB2 := Lib.hid (HB1.out.trans (hb2.mono HB1.out.size))
  clear hak hb2 HS1 HB1
  obtain ⟨T, v, Kx, t0, h1, h2, h3⟩ := HS2.out
  obtain ⟨A2, c2, hv⟩ := h2.own.form
  obtain ⟨m, hm⟩ : ∃ m, m = Kx.length := ⟨_, rfl⟩
  have c0 := h2.c0
  rw [hv, ← hm] at c0
  have HM : Hid (m = S.L.length) := hm.trans h2.len
  clear h1 h2 h3 hv t0
  clear hm
  go_wp2_with fail
  go_loopw [6] (fun i wr => ∃ (m : Nat) (S : Rs), m = S.L.length ∧ i = .int .i64 m ∧ Bnd 60 S ∧ St w.heap.size wr s x S ∧ Below w.heap.size w wr) (fun i _ => (RowKit.intOf i).toNat)
  case atStart => exact ⟨m, S, HM.out, rfl, HBD.out, HS2.out, HB2.out⟩
  case round =>
    clear HM HBD HS2 HB2 c0
    obtain ⟨m, S, hm, rfl, hbd, hst, hb⟩ := hrel
    have HBL := Lib.hid hb
    have HBD := Lib.hid hbd
    obtain ⟨T, v, Kx, t0, h1, h2, h3⟩ := hst
    have HML := Lib.hid hm
    by_cases hlt : 0 < m
    · obtain ⟨k, hk, o1, o2⟩ := old_is hm hlt
      obtain ⟨y, hy⟩ : ∃ y, y = S.L[k] := ⟨_, rfl⟩
      rw [← hy] at o1
      have hym : y ∈ S.L := by rw [hy]; exact List.getElem_mem _
      have hold := oldest_r h1 hbd (by decide)
      rw [o1, t0, show (some y).isSome = true from rfl] at hold
      have HO2 := Lib.hid o2
      have HK := Lib.hid (And.intro hk hy)
      have H123 := Lib.hid (And.intro h1 (And.intro h2 h3))
      have HT0 := Lib.hid t0
      have HY := Lib.hid (And.intro hym (And.intro (brS_len hbd hym) (hbd.ok y hym)))
      have hml : (0 : Int) < m := by omega
      have hm60 : (m : Int) ≤ 60 := by have := hbd.ln; omega
      have hw1 : IntKind.i64.wrap ((m : Int) - 1) = (m : Int) - 1 := IntWalk.i64_in _ (by omega)
      clear h1 h2 h3 hm hbd hb o1 o2 t0 hym
      obtain ⟨ys, yp, yf, yn, yt⟩ := y
      rw [show tldV (some ⟨ys, yp, yf, yn, yt⟩) = .agg #[.int .i64 ys, .int .i64 yp, .int .i64 yf, .int .u8 (yn : Nat)] from rfl] at hold
      dsimp only at HY
      go_wp2_with fail
      refine hold.mono ?_
      rintro e w3 ⟨rfl, hb3⟩
      obtain ⟨q, hq⟩ : ∃ q, q = w3.heap.size := ⟨_, rfl⟩
      obtain ⟨W4, hW4⟩ : ∃ W4, W4 = w3.alloc (.cells #[.int .i64 ys, .int .i64 yp, .int .i64 yf, .int .u8 (yn : Nat)] 31) := ⟨_, rfl⟩
      have hbr : Below wr.heap.size wr W4 := by rw [hW4]; exact hb3.alloc hb3.size _
      have rq : Lrow W4 q 31 [.int .i64 ys, .int .i64 yp, .int .i64 yf, .int .u8 (yn : Nat)] := by rw [hW4, hq]; exact Lrow.new w3 _ _
      have k1 := H123.out.1.call hbr
      have k2 := H123.out.2.1.call hbr
      have hox := old_x k2 HBD.out (by decide)
      rw [HO2.out] at hox
      have HX : Hid ((∀ k, MineO T S.L k → k = q → False) ∧ ∀ k, MineX x v Kx k → k = q → False) := ⟨fun k hk e => by have := H123.out.1.lt k hk; have := hb3.size; omega, fun k hk e => by have := (H123.out.2.1.mine k hk).2; have := hb3.size; omega⟩
      have HC4 := Lib.hid (And.intro k1 (And.intro k2 rq))
      have HB4 : Hid (Below w.heap.size w W4) := HBL.out.trans (hbr.mono HBL.out.size)
      have HW4 := Lib.hid (And.intro hW4 hq)
      clear hold hb3 hW4 hq hbr rq k1 k2
      go_upto_region 8 with fail
      rw [← HW4.out.1, ← HW4.out.2]
      go_wp2_with fail
      refine hox.mono ?_
      rintro e w5 ⟨rfl, hb5⟩
      have k1 := HC4.out.1.call (hb5.trans (below_dN (Below.refl _ w5) 1 |>.mono hb5.size))
      have k2 := HC4.out.2.1.call (hb5.trans (below_dN (Below.refl _ w5) 1 |>.mono hb5.size))
      have rq := HC4.out.2.2.call (hb5.trans (below_dN (Below.refl _ w5) 1 |>.mono hb5.size))
      obtain ⟨hkk, hkv⟩ := k2.at_ HK.out.1
      obtain ⟨A2, c2, hv⟩ := k2.own.form
      obtain ⟨mm, hmm⟩ : ∃ mm, mm = Kx.length := ⟨_, rfl⟩
      obtain ⟨-, g, e, -, hcell⟩ := k2.on hv hkk
      subst e
      obtain ⟨d0, d1, d2, d3, d4⟩ := on_at hcell
      have hmark := fun i hi => k2.mark (y := Kx[k]) (List.getElem_mem hkk) (by rw [hkv, ← HK.out.2]; exact HY.out.2.2.nl) (i := i) hi
      have hgl : Kx[k].g < (w5.drewN 1).heap.size := (k2.mine _ (Or.inr (Or.inr ⟨_, List.getElem_mem hkk, rfl⟩))).2
      rw [hkv, ← HK.out.2] at d0 d1 d2 d4
      simp only [hkv, ← HK.out.2] at hmark
      dsimp only at d0 d1 d2 d4 hmark
      have c0 := k2.c0
      rw [hv, ← hmm] at c0
      obtain ⟨gg, hgg⟩ : ∃ gg, gg = Kx[k].g := ⟨_, rfl⟩
      obtain ⟨cc, hcc⟩ : ∃ cc, cc = Kx[k].c := ⟨_, rfl⟩
      rw [← hgg, ← hcc] at d3
      rw [← hgg] at hmark hgl
      have htold := told_x (sv := ys) (pv := yp) (fv := yf) (tv := yt) (c := cc) hmark HY.out.2.2.nl hgl
      have i1 : (k : Int) < mm := by rw [hmm]; omega
      have i0 : (0 : Int) ≤ k := by omega
      have i0n : ¬ (k : Int) < 0 := by omega
      have q0 := rq.cell 0
      have q1 := rq.cell 1
      have q2 := rq.cell 2
      have q3 := rq.cell 3
      have HSK : Hid (∀ w', Below (w5.drewN 1).heap.size (w5.drewN 1) w' → (w'.cell? ⟨q, 0, none⟩ = some (.int .i64 ys) ∧ w'.cell? ⟨q, 1, none⟩ = some (.int .i64 yp) ∧ w'.cell? ⟨q, 2, none⟩ = some (.int .i64 yf) ∧ w'.cell? ⟨q, 3, none⟩ = some (.int .u8 (yn : Nat)) ∧ w'.cell? ⟨x, 0, none⟩ = some (.slice (some ⟨g, 0, none⟩) mm c2) ∧ w'.cell? ⟨g, k * 5, none⟩ = some (.int .i64 ys) ∧ w'.cell? ⟨g, k * 5 + 1, none⟩ = some (.int .i64 yp) ∧ w'.cell? ⟨g, k * 5 + 2, none⟩ = some (.int .i64 yf) ∧ w'.cell? ⟨g, k * 5 + 3, none⟩ = some (.slice (some ⟨gg, 0, none⟩) 8 cc) ∧ w'.cell? ⟨g, k * 5 + 4, none⟩ = some (.int .i64 yt))) := fun w' hb => ⟨(rq.call hb).cell 0, (rq.call hb).cell 1, (rq.call hb).cell 2, (rq.call hb).cell 3, (hb.cell (p := ⟨x, 0, none⟩) k2.top.lt).trans c0, (hb.cell (p := ⟨g, _, none⟩) (World.block_lt_of_cell? _ _ d0)).trans d0, (hb.cell (p := ⟨g, _, none⟩) (World.block_lt_of_cell? _ _ d1)).trans d1, (hb.cell (p := ⟨g, _, none⟩) (World.block_lt_of_cell? _ _ d2)).trans d2, (hb.cell (p := ⟨g, _, none⟩) (World.block_lt_of_cell? _ _ d3)).trans d3, (hb.cell (p := ⟨g, _, none⟩) (World.block_lt_of_cell? _ _ d4)).trans d4⟩
      have HC5 := Lib.hid (And.intro k1 (And.intro k2 rq))
      have HB5 : Hid (Below w.heap.size w (w5.drewN 1)) := below_dN (HB4.out.trans (hb5.mono HB4.out.size)) 1
      clear hox hb5 k1 k2 rq hkk hkv hv hmm hcell hmark hgl hgg hcc
      have HS0 := HSK.out _ (Below.refl _ _)
      clear c0 d0 d1 d2 d3 d4 q0 q1 q2 q3
      go_wp2_with fail
      go_region_held3 (fun v => v.cell? ⟨q, 0, none⟩ = some (.int .i64 ys) ∧ v.cell? ⟨q, 1, none⟩ = some (.int .i64 yp) ∧ v.cell? ⟨q, 2, none⟩ = some (.int .i64 yf) ∧ v.cell? ⟨q, 3, none⟩ = some (.int .u8 (yn : Nat)) ∧ v.cell? ⟨x, 0, none⟩ = some (.slice (some ⟨g, 0, none⟩) mm c2) ∧ v.cell? ⟨g, k * 5, none⟩ = some (.int .i64 ys) ∧ v.cell? ⟨g, k * 5 + 1, none⟩ = some (.int .i64 yp) ∧ v.cell? ⟨g, k * 5 + 2, none⟩ = some (.int .i64 yf) ∧ v.cell? ⟨g, k * 5 + 3, none⟩ = some (.slice (some ⟨gg, 0, none⟩) 8 cc) ∧ v.cell? ⟨g, k * 5 + 4, none⟩ = some (.int .i64 yt))
        (first | exact HS0 | exact HS1)
        (first | (go_at_call 19; refine htold.mono ?_; rintro e w6 ⟨rfl, hb6⟩; have HS1 := HSK.out w6 hb6))
      all_goals
        have q0 := HS1.1
        have q1 := HS1.2.1
        have k1 := HC5.out.1.call hb6
        have k2 := HC5.out.2.1.call hb6
        have rq := HC5.out.2.2.call hb6
        have HB6 : Hid (Below w.heap.size w w6) := HB5.out.trans (hb6.mono HB5.out.size)
        have FS : Fits ys := ⟨by have := HY.out.2.2.s0; dsimp only at this; omega, HY.out.2.2.s1⟩
        have FP : Fits yp := ⟨by have := HY.out.2.2.p0; dsimp only at this; omega, by have := HY.out.2.2.p1; dsimp only at this; omega⟩
        have hbk := break_r k1 HBD.out FS FP
        obtain ⟨R, hR⟩ : ∃ R, R = brV S ys yp := ⟨_, rfl⟩
        have hRl : R.length ≤ 5000 := by have := brV_len S ys yp; rw [hR]; omega
        have hE0 : brE S ys yp = 0 := by unfold brE; rw [HY.out.2.1.1]
        rw [hE0, ← hR, HT0.out] at hbk
        have HR := Lib.hid (And.intro hR (And.intro hRl hE0))
        have HMW : Hid (∀ k, MineX x v Kx k → k < w6.heap.size) := fun k hk => (k2.mine k hk).2
        have HC6 := Lib.hid (And.intro k1 (And.intro k2 rq))
        clear hb6 k1 k2 rq FS FP hR hRl hE0 HS1 htold HS0
        go_wp2_with fail
        refine hbk.mono ?_
        rintro e w7 ⟨A1, c1, rfl, ho1, hd1⟩
        have r7 := hd1.choose_spec.2.2.1.row HC6.out.2.2 (fun e => HX.out.1 q e rfl)
        obtain ⟨T7, j0, j1, j2, j3, jb⟩ := half HC6.out.1 HC6.out.2.1 H123.out.2.2 hd1
        have hxb := break_x j2 HBD.out (by decide) ys yp
        rw [HR.out.2.2, ← HR.out.1] at hxb
        have q0 := r7.cell 0
        have q1 := r7.cell 1
        have HK7 := Lib.hid (And.intro j1 (And.intro j2 (And.intro j3 (And.intro jb (j0.trans HT0.out)))))
        have HO := Lib.hid ho1
        clear hbk hd1 j0 j1 j2 j3 jb r7 ho1
        go_wp2_with fail
        refine hxb.mono ?_
        rintro e w8 ⟨A3, c3, rfl, ho2, hd2⟩
        obtain ⟨hst2, hb2⟩ := whole HK7.out.1 HK7.out.2.1 HK7.out.2.2.1 hd2
        have hnm := numbers_yes (c := c1) (c' := c3) (own_ref HO.out HMW.out hd2).ls ho2.ls rfl rfl HR.out.2.1
        have HE := Lib.hid (And.intro hst2 (HB6.out.trans (HK7.out.2.2.2.1.trans hb2)))
        generalize R.length = rl at hnm
        clear hxb ho2 hd2 hst2 hb2 q0 q1
        go_wp2_with fail
        refine hnm.mono ?_
        rintro e w9 ⟨rfl, hb9⟩
        have HE9 := Lib.hid (And.intro (HE.out.1.call hb9) (HE.out.2.trans (hb9.mono HE.out.1.lw)))
        clear hnm hb9
        go_wp2_with fail
        go_roundw
        case rel => exact ⟨m - 1, brS S ys yp, by have := HY.out.2.1.2; have := HML.out; omega, by go_num, HBD.out.brk ys yp, by rw [← HK7.out.2.2.2.2]; exact HE9.out.1, HE9.out.2⟩
        case measure => simp [RowKit.intOf]; omega
    · obtain rfl : m = 0 := by omega
      have hS : S.L = [] := List.eq_nil_of_length_eq_zero hm.symm
      have hold := oldest_r h1 hbd (by decide)
      rw [t0, show oldR S.L = none by rw [hS]; rfl, show tldV none = .agg #[.int .i64 0, .int .i64 0, .int .i64 0, .int .u8 0] from rfl, show (none : Option Rv).isSome = false from rfl] at hold
      have H1 := Lib.hid (And.intro h1 (And.intro hS t0))
      clear h1 h2 h3 hm hbd hb hS t0
      go_wp2_with fail
      refine hold.mono ?_
      rintro e w3 ⟨rfl, hb3⟩
      have hb4 : Below wr.heap.size wr (w3.alloc (.cells #[.int .i64 0, .int .i64 0, .int .i64 0, .int .u8 0] 31)) := hb3.alloc hb3.size _
      have hhe := held_all (H1.out.1.call hb4) HBD.out (by decide)
      rw [H1.out.2.1, H1.out.2.2, show hdV ([] : List Rv) = 0 from rfl] at hhe
      have HB4 : Hid (Below w.heap.size w _) := HBL.out.trans (hb4.mono HBL.out.size)
      clear hold hb3 hb4
      go_wp2_with fail
      refine hhe.mono ?_
      rintro e w5 ⟨rfl, hb5⟩
      have HB5 := Lib.hid (HB4.out.trans (hb5.mono HB4.out.size))
      clear hhe hb5
      go_wp2_with fail
      go_ret
      exact ⟨rfl, HB5.out⟩
end Go.Proofs.Ytfalmjibpkkjaaa
