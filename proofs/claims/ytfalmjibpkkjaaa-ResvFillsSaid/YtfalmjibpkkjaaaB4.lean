/- The program's reservations: Fill, Clear, Find. -/
import Derived.Test.YtfalmjibpkkjaaaB3
namespace Go.Proofs.Ytfalmjibpkkjaaa
open Go.RowKit
theorem shiftw_u8 {j : Nat} (hj : j < 8) : IntKind.u8.wrap ((2 : Int) ^ min j 8) = ((2 ^ j : Nat) : Int) := by
  have : j = 0 ∨ j = 1 ∨ j = 2 ∨ j = 3 ∨ j = 4 ∨ j = 5 ∨ j = 6 ∨ j = 7 := by omega
  rcases this with rfl | rfl | rfl | rfl | rfl | rfl | rfl | rfl <;> rfl
section
variable {w w' : World} {B : Nat} {T : ObT} {S S' : Rs} {n : Nat} {s p f : Int}
theorem tu_find (q : Rv → Bool) (hq : ∀ x b T', q (tuX s p b T' x) = q x) (b : Bool) (T' : Int) (L : List Rv) : (L.map (tuX s p b T')).find? q = (L.find? q).map (tuX s p b T') := by
  rw [List.find?_map]
  congr 2
  funext x
  exact hq x b T'
theorem sayK_tu (a : Int → Int → Nat) (b : Bool) (T' : Int) (L : List Rv) (k : Int × Int) : sayK (L.map (tuX s p b T')) a k = sayK L a k := by
  unfold sayK
  rw [tu_find _ (fun x b T' => by rw [(tuX_key s p b T' x).1, (tuX_key s p b T' x).2.1])]
  cases L.find? (fun x => decide (x.s = k.1 ∧ x.p = k.2)) with
  | none => rfl
  | some x => simp only [Option.map_some]; rw [(tuX_key s p b T' x).1, (tuX_key s p b T' x).2.1]
theorem sayF_tu (a : Int → Int → Nat) (b : Bool) (T' : Int) (L : List Rv) (f : Int) : sayF (L.map (tuX s p b T')) a f = sayF L a f := by
  unfold sayF
  rw [tu_find _ (fun x b T' => by rw [(tuX_key s p b T' x).2.2])]
  cases L.find? (fun x => decide (x.f = f)) with
  | none => rfl
  | some x => simp only [Option.map_some]; rw [(tuX_key s p b T' x).1, (tuX_key s p b T' x).2.1]
/-- One is turned: what is written, and what it comes to. -/
theorem ObAt.turned (h : ObAt B w T S) (hb : Bnd n S) {x : Rv} (e : atP S.L s p = some x) (b : Bool) {w1 w2 w3 : World} (e1 : w1 = w.setCell ⟨T.a x.s x.p, 3, none⟩ (.int .u8 (setB x.n (jd p) b : Nat))) (e2 : w2 = w1.setCell ⟨T.s, 2, none⟩ (.int .u64 (S.T + 1))) (e3 : w3 = w2.setCell ⟨T.a x.s x.p, 4, none⟩ (.int .u64 (S.T + 1))) :
    w.frozen? ⟨T.a x.s x.p, 3, none⟩ = false ∧ Lrow w1 T.s 74 [.map (some T.bk), .map (some T.bo), .int .u64 S.T] ∧ Lrow w1 (T.a x.s x.p) 69 [.int .i64 x.s, .int .i64 x.p, .int .i64 x.f, .int .u8 (setB x.n (jd p) b : Nat), .int .u64 x.t] ∧ Lrow w3 (T.a x.s x.p) 69 (keptC ⟨x.s, x.p, x.f, setB x.n (jd p) b, S.T + 1⟩) ∧ DidM B w T S (tuS S s p b) w3 := by
  obtain ⟨hx, x1, x2⟩ := atP_mem e
  have r := h.row x hx
  have hne : T.s ≠ T.a x.s x.p := h.top.apart r (by decide)
  have t0 := hb.t0
  have r1 : Lrow w1 (T.a x.s x.p) 69 [.int .i64 x.s, .int .i64 x.p, .int .i64 x.f, .int .u8 (setB x.n (jd p) b : Nat), .int .u64 x.t] := by rw [e1]; exact r.set_ 3 _
  have t1 : Lrow w1 T.s 74 [.map (some T.bk), .map (some T.bo), .int .u64 S.T] := by rw [e1]; exact h.top.far hne _
  have t2 : Lrow w2 T.s 74 [.map (some T.bk), .map (some T.bo), .int .u64 (S.T + 1)] := by rw [e2]; exact t1.set_ 2 _
  have r2 : Lrow w2 (T.a x.s x.p) 69 [.int .i64 x.s, .int .i64 x.p, .int .i64 x.f, .int .u8 (setB x.n (jd p) b : Nat), .int .u64 x.t] := by rw [e2]; exact r1.far (p := ⟨T.s, 2, none⟩) hne.symm _
  have r3 : Lrow w3 (T.a x.s x.p) 69 [.int .i64 x.s, .int .i64 x.p, .int .i64 x.f, .int .u8 (setB x.n (jd p) b : Nat), .int .u64 (S.T + 1)] := by rw [e3]; exact r2.set_ 4 _
  have t3 : Lrow w3 T.s 74 [.map (some T.bk), .map (some T.bo), .int .u64 (S.T + 1)] := by rw [e3]; exact t2.far (p := ⟨T.a x.s x.p, 4, none⟩) hne _
  have sz : w.heap.size = w3.heap.size := by rw [e3, e2, e1]; simp [World.setCell]
  have kk : ∀ k, k ≠ T.s → k ≠ T.a x.s x.p → w3.heap[k]? = w.heap[k]? := fun k h1 h2 => by
    rw [e3, Below.heap_setCell _ _ _ k (by exact h2), e2, Below.heap_setCell _ _ _ k (by exact h1), e1, Below.heap_setCell _ _ _ k (by exact h2)]
  have hO : ObAt B w3 T (tuS S s p b) := by
    refine ⟨t3, ?_, ?_, fun y hy => ?_, fun y hy z hz he => ?_, h.apb, h.lo, fun y hy => ?_⟩
    · refine ((h.kept.heap (kk _ (fun e => h.kept.apart h.top e.symm) (fun e => h.kept.apart r e.symm))).mono ?_).eq fun k _ => sayK_tu _ _ _ _ _
      show S.T.toNat ≤ (S.T + 1).toNat; omega
    · refine ((h.own.heap (kk _ (fun e => h.own.apart h.top e.symm) (fun e => h.own.apart r e.symm))).mono ?_).eq fun k _ => sayF_tu _ _ _ _ _
      show S.T.toNat ≤ (S.T + 1).toNat; omega
    · obtain ⟨z, hz, rfl⟩ := List.mem_map.1 hy
      rw [(tuX_key s p b (S.T + 1) z).1, (tuX_key s p b (S.T + 1) z).2.1]
      by_cases c : hitP s p z = true
      · have hzx : z = x := by
          have c' := c
          unfold hitP at c'
          simp only [decide_eq_true_eq] at c'
          exact hb.key hz hx (c'.1.trans x1.symm) (c'.2.trans x2.symm)
        subst hzx
        unfold tuX
        rw [if_pos c]
        exact r3
      · unfold tuX
        rw [if_neg c]
        have rz := h.row z hz
        refine (kk _ (rz.apart h.top (by decide)) (fun e => c ?_)).trans rz
        obtain ⟨i1, i2⟩ := h.inj z hz x hx e
        unfold hitP
        exact decide_eq_true ⟨i1.trans x1, i2.trans x2⟩
    · obtain ⟨y', hy', rfl⟩ := List.mem_map.1 hy
      obtain ⟨z', hz', rfl⟩ := List.mem_map.1 hz
      rw [(tuX_key s p b (S.T + 1) y').1, (tuX_key s p b (S.T + 1) y').2.1, (tuX_key s p b (S.T + 1) z').1, (tuX_key s p b (S.T + 1) z').2.1] at he ⊢
      exact h.inj y' hy' z' hz' he
    · obtain ⟨y', hy', rfl⟩ := List.mem_map.1 hy
      rw [(tuX_key s p b (S.T + 1) y').1, (tuX_key s p b (S.T + 1) y').2.1]
      exact h.loq y' hy'
  refine ⟨r.frozen 3, t1, r1, r3, T, rfl, hO, ?_, ?_⟩
  · refine ⟨?_, ?_, ?_, by rw [← sz]; exact Nat.le_refl _, fun k _ hk => kk k (fun e => hk (Or.inl e)) (fun e => hk (Or.inr (Or.inr (Or.inr ⟨x, hx, e⟩))))⟩
    · rw [e3, e2, e1]; rfl
    · rw [e3, e2, e1]; rfl
    · rw [e3, e2, e1]; rfl
  · rintro k (rfl | rfl | rfl | ⟨y, hy, rfl⟩)
    · exact Or.inl (Or.inl rfl)
    · exact Or.inl (Or.inr (Or.inl rfl))
    · exact Or.inl (Or.inr (Or.inr (Or.inl rfl)))
    · obtain ⟨y', hy', rfl⟩ := List.mem_map.1 hy
      rw [(tuX_key s p b (S.T + 1) y').1, (tuX_key s p b (S.T + 1) y').2.1]
      exact Or.inl (Or.inr (Or.inr (Or.inr ⟨y', hy', rfl⟩)))
set_option maxRecDepth 100000 in
set_option maxHeartbeats 2000000 in
theorem fill_r (h : ObAt B w T S) (hb : Bnd n S) (hn : n ≤ 900) (hs : Fits s) (hp : Fits p) : Calls Try.prog 14 #[.pointer (some ⟨T.s, 0, none⟩), .int .i64 s, .int .i64 p] w fun e w' => e = .returned (.tuple #[.int .i64 (fiV S s p), .int .i64 (fiE S s p)]) ∧ DidM B w T S (fiS S s p) w' := by
  have hpl := fun w => place_r hp w
  cases e : atP S.L s p with
  | none =>
    have HE : Hid (fiV S s p = 0 ∧ fiE S s p = 6 ∧ fiS S s p = S) := by
      have e6 : fiE S s p = 6 := by unfold fiE; rw [e]
      exact ⟨by unfold fiV; rw [e], e6, by unfold fiS; rw [e6]; exact if_neg (by decide)⟩
    have hf := find_no h hs hp e
    have HD : Hid (∀ k, DidM B w T S S (w.drewN k)) := fun k => h.did (below_dN (Below.refl _ _) k)
    generalize jd p = j at *
    clear h hb hn hs hp e
    go_enter Try.func14, Try.ntmps14
    go_wp2_with (first | (go_at_call 32; (with_reducible refine hf.mono ?_); rintro e w1 ⟨rfl, k, rfl⟩) | (go_at_call 33; (with_reducible refine (hpl _).mono ?_); rintro e w2 ⟨rfl, rfl⟩))
    go_ret2
    exact ⟨by rw [HE.out.1, HE.out.2.1]; rfl, by rw [HE.out.2.2]; exact HD.out _⟩
  | some x =>
    obtain ⟨hx, x1, x2⟩ := atP_mem e
    have ok := hb.ok x hx
    have hf := find_yes h hs hp e
    have r := h.row x hx
    have hj := jd_lt p
    have hh : ∀ k, Calls Try.prog 34 #[.pointer (some ⟨T.a x.s x.p, 0, none⟩), .int .i64 (jd p : Nat)] (w.drewN k) fun e w' => e = .returned (.bool (x.n.testBit (jd p))) ∧ ∃ m, w' = (w.drewN k).drewN m := fun k => has_r ((r.drewN k).cell 3) ok.nl hj
    by_cases hbit : x.n.testBit (jd p) = true
    · have HE : Hid (fiV S s p = 0 ∧ fiE S s p = 7 ∧ fiS S s p = S) := by
        have e7 : fiE S s p = 7 := by unfold fiE; rw [e]; exact if_pos hbit
        exact ⟨by unfold fiV; rw [e]; exact if_pos hbit, e7, by unfold fiS; rw [e7]; exact if_neg (by decide)⟩
      rw [hbit] at hh
      have HD : Hid (∀ k, DidM B w T S S (w.drewN k)) := fun k => h.did (below_dN (Below.refl _ _) k)
      generalize T.a x.s x.p = q at *
      generalize jd p = j at *
      clear h hb hn hs hp e r hbit ok
      go_enter Try.func14, Try.ntmps14
      go_wp2_with (first | (go_at_call 32; (with_reducible refine hf.mono ?_); rintro e w1 ⟨rfl, k, rfl⟩) | (go_at_call 33; (with_reducible refine (hpl _).mono ?_); rintro e w2 ⟨rfl, rfl⟩) | (go_at_call 34; (with_reducible refine (hh _).mono ?_); rintro e w3 ⟨rfl, m, rfl⟩))
      go_ret2
      exact ⟨by rw [HE.out.1, HE.out.2.1]; rfl, by rw [HE.out.2.2]; exact HD.out _⟩
    · have hbit' : x.n.testBit (jd p) = false := by simpa using hbit
      have HE : Hid (fiV S s p = x.f + (jd p : Nat) ∧ fiE S s p = 0 ∧ fiS S s p = tuS S s p true) := by
        have e0 : fiE S s p = 0 := by unfold fiE; rw [e]; exact if_neg hbit
        exact ⟨by unfold fiV; rw [e]; exact if_neg hbit, e0, by unfold fiS; rw [e0]; exact if_pos rfl⟩
      rw [hbit'] at hh
      have f0 := ok.f0
      have f1 := ok.f1
      have t0 := hb.t0
      have t1 := hb.t1
      have HT : Hid (∀ k : Nat, ∃ w0 w1 w3, w0 = (w.drewN k).drew ∧ w1 = w0.setCell ⟨T.a x.s x.p, 3, none⟩ (.int .u8 (setB x.n (jd p) true : Nat)) ∧ w0.cell? ⟨T.a x.s x.p, 3, none⟩ = some (.int .u8 (x.n : Nat)) ∧ w0.frozen? ⟨T.a x.s x.p, 3, none⟩ = false ∧
          Calls Try.prog 31 #[.pointer (some ⟨T.s, 0, none⟩), .pointer (some ⟨T.a x.s x.p, 0, none⟩)] w1 (fun e w' => e = .returned (.tuple #[]) ∧ w' = w3) ∧ w3.cell? ⟨T.a x.s x.p, 2, none⟩ = some (.int .i64 x.f) ∧ DidM B w T S (tuS S s p true) w3) := fun k => by
        have h0 := (h.drewN k).drewN 1
        obtain ⟨a1, a2, a3, a4, a5⟩ := h0.turned hb e true rfl rfl rfl
        exact ⟨_, _, _, rfl, rfl, (h0.row x hx).cell 3, a1, touch_r a2 a3 t0 (by omega), a4.cell 2, a5.pre (below_dN (below_dN (Below.refl _ _) k) 1)⟩
      obtain ⟨-, b2, -⟩ := bits_u8 ⟨x.n, ok.nl⟩ ⟨jd p, hj⟩
      dsimp only at b2
      have hsh := shiftw_u8 hj
      have e1 : IntKind.i64.wrap (x.f + (jd p : Nat)) = x.f + (jd p : Nat) := IntWalk.i64_in _ (by omega)
      have hcx : ∀ k, (w.drewN k).cell? ⟨T.a x.s x.p, 3, none⟩ = some (.int .u8 (x.n : Nat)) := fun k => (r.drewN k).cell 3
      generalize T.a x.s x.p = q at *
      generalize T.s = ts at *
      generalize ((setB x.n (jd p) true : Nat) : Int) = n2 at *
      generalize ((2 ^ jd p : Nat) : Int) = pw at *
      generalize (x.n : Int) = n1 at *
      generalize jd p = j at *
      generalize x.f = xf at *
      clear h hb hn hs hp e r hbit hbit' ok hj f0 f1 t0 t1
      go_enter Try.func14, Try.ntmps14
      go_upto_region 7 with (first | (go_at_call 32; (with_reducible refine hf.mono ?_); rintro e w1 ⟨rfl, k, rfl⟩) | (go_at_call 33; (with_reducible refine (hpl _).mono ?_); rintro e w2 ⟨rfl, rfl⟩) | (go_at_call 34; (with_reducible refine (hh _).mono ?_); rintro e w3 ⟨rfl, m, rfl⟩))
      obtain ⟨w0, w1, w3, d1, d2, d3, d4, d5, d6, d7⟩ := HT.out (k + m)
      have hc0 := hcx (k + m)
      obtain ⟨wd, ewd⟩ : ∃ wd, wd = w.drewN (k + m) := ⟨_, rfl⟩
      rw [← ewd] at d1 hc0 ⊢
      have HD := Lib.hid (And.intro d1 (And.intro d2 d7))
      clear HT hcx hf hh hpl ewd d1 d2 d7
      go_wp2_with fail
      go_still_tail 11, (by kernel_rfl)
      change wpList _ _ _ _ _ wd.drew
      rw [← HD.out.1]
      go_upto_region 8 with (fail)
      rw [← HD.out.2.1]
      clear hc0 d3 d4
      go_wp2_with (go_at_call 31; (with_reducible refine d5.mono ?_); rintro e w4 ⟨rfl, rfl⟩)
      go_ret2
      exact ⟨by rw [HE.out.1, HE.out.2.1]; rfl, by rw [HE.out.2.2]; exact HD.out.2.2⟩
set_option maxRecDepth 100000 in
set_option maxHeartbeats 2000000 in
theorem clear_r (h : ObAt B w T S) (hb : Bnd n S) (hn : n ≤ 900) (hs : Fits s) (hp : Fits p) : Calls Try.prog 15 #[.pointer (some ⟨T.s, 0, none⟩), .int .i64 s, .int .i64 p] w fun e w' => e = .returned (.int .i64 (clE S s p)) ∧ DidM B w T S (clS S s p) w' := by
  have hpl := fun w => place_r hp w
  cases e : atP S.L s p with
  | none =>
    have HE : Hid (clE S s p = 6 ∧ clS S s p = S) := by
      have e6 : clE S s p = 6 := by unfold clE; rw [e]
      exact ⟨e6, by unfold clS; rw [e6]; exact if_neg (by decide)⟩
    have hf := find_no h hs hp e
    have HD : Hid (∀ k, DidM B w T S S (w.drewN k)) := fun k => h.did (below_dN (Below.refl _ _) k)
    generalize jd p = j at *
    clear h hb hn hs hp e
    go_enter Try.func15, Try.ntmps15
    go_wp2_with (first | (go_at_call 32; (with_reducible refine hf.mono ?_); rintro e w1 ⟨rfl, k, rfl⟩) | (go_at_call 33; (with_reducible refine (hpl _).mono ?_); rintro e w2 ⟨rfl, rfl⟩))
    go_ret
    exact ⟨by rw [HE.out.1]; rfl, by rw [HE.out.2]; exact HD.out _⟩
  | some x =>
    obtain ⟨hx, x1, x2⟩ := atP_mem e
    have ok := hb.ok x hx
    have hf := find_yes h hs hp e
    have r := h.row x hx
    have hj := jd_lt p
    have hh : ∀ k, Calls Try.prog 34 #[.pointer (some ⟨T.a x.s x.p, 0, none⟩), .int .i64 (jd p : Nat)] (w.drewN k) fun e w' => e = .returned (.bool (x.n.testBit (jd p))) ∧ ∃ m, w' = (w.drewN k).drewN m := fun k => has_r ((r.drewN k).cell 3) ok.nl hj
    by_cases hbit : x.n.testBit (jd p) = true
    · have HE : Hid (clE S s p = 0 ∧ clS S s p = tuS S s p false) := by
        have e0 : clE S s p = 0 := by unfold clE; rw [e]; exact if_pos hbit
        exact ⟨e0, by unfold clS; rw [e0]; exact if_pos rfl⟩
      rw [hbit] at hh
      have t0 := hb.t0
      have t1 := hb.t1
      have HT : Hid (∀ k : Nat, ∃ w0 w1 w3, w0 = (w.drewN k).drew ∧ w1 = w0.setCell ⟨T.a x.s x.p, 3, none⟩ (.int .u8 (setB x.n (jd p) false : Nat)) ∧ w0.cell? ⟨T.a x.s x.p, 3, none⟩ = some (.int .u8 (x.n : Nat)) ∧ w0.frozen? ⟨T.a x.s x.p, 3, none⟩ = false ∧
          Calls Try.prog 31 #[.pointer (some ⟨T.s, 0, none⟩), .pointer (some ⟨T.a x.s x.p, 0, none⟩)] w1 (fun e w' => e = .returned (.tuple #[]) ∧ w' = w3) ∧ DidM B w T S (tuS S s p false) w3) := fun k => by
        have h0 := (h.drewN k).drewN 1
        obtain ⟨a1, a2, a3, a4, a5⟩ := h0.turned hb e false rfl rfl rfl
        exact ⟨_, _, _, rfl, rfl, (h0.row x hx).cell 3, a1, touch_r a2 a3 t0 (by omega), a5.pre (below_dN (below_dN (Below.refl _ _) k) 1)⟩
      obtain ⟨-, -, b2⟩ := bits_u8 ⟨x.n, ok.nl⟩ ⟨jd p, hj⟩
      dsimp only at b2
      have hsh := shiftw_u8 hj
      have hcx : ∀ k, (w.drewN k).cell? ⟨T.a x.s x.p, 3, none⟩ = some (.int .u8 (x.n : Nat)) := fun k => (r.drewN k).cell 3
      generalize T.a x.s x.p = q at *
      generalize T.s = ts at *
      generalize ((setB x.n (jd p) false : Nat) : Int) = n2 at *
      generalize ((2 ^ jd p : Nat) : Int) = pw at *
      generalize (x.n : Int) = n1 at *
      generalize jd p = j at *
      clear h hb hn hs hp e r hbit ok hj t0 t1
      go_enter Try.func15, Try.ntmps15
      go_upto_region 7 with (first | (go_at_call 32; (with_reducible refine hf.mono ?_); rintro e w1 ⟨rfl, k, rfl⟩) | (go_at_call 33; (with_reducible refine (hpl _).mono ?_); rintro e w2 ⟨rfl, rfl⟩) | (go_at_call 34; (with_reducible refine (hh _).mono ?_); rintro e w3 ⟨rfl, m, rfl⟩))
      obtain ⟨w0, w1, w3, d1, d2, d3, d4, d5, d7⟩ := HT.out (k + m)
      have hc0 := hcx (k + m)
      obtain ⟨wd, ewd⟩ : ∃ wd, wd = w.drewN (k + m) := ⟨_, rfl⟩
      rw [← ewd] at d1 hc0 ⊢
      have HD := Lib.hid (And.intro d1 (And.intro d2 d7))
      clear HT hcx hf hh hpl ewd d1 d2 d7
      go_wp2_with fail
      go_still_tail 11, (by kernel_rfl)
      change wpList _ _ _ _ _ wd.drew
      rw [← HD.out.1]
      go_upto_region 8 with (fail)
      rw [← HD.out.2.1]
      clear hc0 d3 d4
      go_wp2_with (go_at_call 31; (with_reducible refine d5.mono ?_); rintro e w4 ⟨rfl, rfl⟩)
      go_ret
      exact ⟨by rw [HE.out.1]; rfl, by rw [HE.out.2]; exact HD.out.2.2⟩
    · have hbit' : x.n.testBit (jd p) = false := by simpa using hbit
      have HE : Hid (clE S s p = 6 ∧ clS S s p = S) := by
        have e7 : clE S s p = 6 := by unfold clE; rw [e]; exact if_neg hbit
        exact ⟨e7, by unfold clS; rw [e7]; exact if_neg (by decide)⟩
      rw [hbit'] at hh
      have HD : Hid (∀ k, DidM B w T S S (w.drewN k)) := fun k => h.did (below_dN (Below.refl _ _) k)
      generalize T.a x.s x.p = q at *
      generalize jd p = j at *
      clear h hb hn hs hp e r hbit hbit' ok
      go_enter Try.func15, Try.ntmps15
      go_wp2_with (first | (go_at_call 32; (with_reducible refine hf.mono ?_); rintro e w1 ⟨rfl, k, rfl⟩) | (go_at_call 33; (with_reducible refine (hpl _).mono ?_); rintro e w2 ⟨rfl, rfl⟩) | (go_at_call 34; (with_reducible refine (hh _).mono ?_); rintro e w3 ⟨rfl, m, rfl⟩))
      go_ret
      exact ⟨by rw [HE.out.1]; rfl, by rw [HE.out.2]; exact HD.out _⟩
/-- What Find and Oldest tell. -/
def tldV : Option Rv → Value
  | none => .agg #[.int .i64 0, .int .i64 0, .int .i64 0, .int .u8 0]
  | some x => .agg #[.int .i64 x.s, .int .i64 x.p, .int .i64 x.f, .int .u8 (x.n : Nat)]
set_option maxRecDepth 100000 in
theorem lookup_r (h : ObAt B w T S) (hs : Fits s) (hp : Fits p) : Calls Try.prog 22 #[.pointer (some ⟨T.s, 0, none⟩), .int .i64 s, .int .i64 p] w fun e w' => e = .returned (.tuple #[tldV (atP S.L s p), .bool (atP S.L s p).isSome]) ∧ Below w.heap.size w w' := by
  obtain ⟨W0, hW0⟩ : ∃ W0, W0 = w.alloc (.cells #[.int .i64 0, .int .i64 0, .int .i64 0, .int .u8 0] 31) := ⟨_, rfl⟩
  obtain ⟨z, hz⟩ : ∃ z, z = w.heap.size := ⟨_, rfl⟩
  have g0 : Below w.heap.size w W0 := by rw [hW0]; exact below_new _ _
  have rz : ∀ k, Lrow (W0.drewN k) z 31 [.int .i64 0, .int .i64 0, .int .i64 0, .int .u8 0] := fun k => by rw [hW0, hz]; exact Lrow.new w _ _
  have HB : Hid (∀ k (v0 v1 v2 v3 : Value), Below w.heap.size w (((((W0.drewN k).setCell ⟨z, 0, none⟩ v0).setCell ⟨z, 1, none⟩ v1).setCell ⟨z, 2, none⟩ v2).setCell ⟨z, 3, none⟩ v3)) := fun k v0 v1 v2 v3 =>
    (((((below_dN g0 k).setCell (by show w.heap.size ≤ z; omega) v0).setCell (by show w.heap.size ≤ z; omega) v1).setCell (by show w.heap.size ≤ z; omega) v2).setCell (by show w.heap.size ≤ z; omega) v3)
  have HW := Lib.hid (And.intro hW0 hz)
  have h0 := h.call g0
  have HRZ := Lib.hid rz
  cases e : atP S.L s p with
  | none =>
    have hf := find_no h0 hs hp e
    generalize T.s = ts at *
    clear h h0 hs hp e hW0 hz g0 rz
    go_enter Try.func22, Try.ntmps22
    go_upto_region 1 with (fail)
    rw [← HW.out.1, ← HW.out.2]
    go_upto_region 3 with (go_at_call 32; (with_reducible refine hf.mono ?_); rintro e w1 ⟨rfl, k, rfl⟩)
    have r0 := HRZ.out k
    have HBk : Hid (∀ (v0 v1 v2 v3 : Value), Below w.heap.size w (((((W0.drewN k).setCell ⟨z, 0, none⟩ v0).setCell ⟨z, 1, none⟩ v1).setCell ⟨z, 2, none⟩ v2).setCell ⟨z, 3, none⟩ v3)) := HB.out k
    generalize W0.drewN k = W1 at *
    have r1 := r0.set_ 0 (.int .i64 0)
    have r2 := r1.set_ 1 (.int .i64 0)
    have r3 := r2.set_ 2 (.int .i64 0)
    have r4 := r3.set_ 3 (.int .u8 0)
    have x0 := r0.cell 0
    have x1 := r1.cell 1
    have x2 := r2.cell 2
    have x3 := r3.cell 3
    have y0 := r0.frozen 0
    have y1 := r1.frozen 1
    have y2 := r2.frozen 2
    have y3 := r3.frozen 3
    have z0 := r4.cell 0
    have z1 := r4.cell 1
    have z2 := r4.cell 2
    have z3 := r4.cell 3
    clear r0 r1 r2 r3 r4
    go_wp2_with fail
    exact bodyPost_ret (v := .tuple #[.agg #[.int .i64 0, .int .i64 0, .int .i64 0, .int .u8 0], .bool false]) (by simp [results, Try.results22, go_sem, *]) rfl ⟨rfl, HBk.out _ _ _ _⟩
  | some x =>
    have hf := find_yes h0 hs hp e
    have hrx := h0.row x (atP_mem e).1
    have HX : Hid (∀ k, Lrow (W0.drewN k) (T.a x.s x.p) 69 (keptC x)) := fun k => hrx.drewN k
    unfold keptC at HX
    generalize T.s = ts at *
    generalize T.a x.s x.p = q at *
    have HV : Hid (tldV (some x) = .agg #[.int .i64 x.s, .int .i64 x.p, .int .i64 x.f, .int .u8 (x.n : Nat)]) := rfl
    generalize x.s = xs at *
    generalize x.p = xp at *
    generalize x.f = xf at *
    generalize (x.n : Int) = xn at *
    clear h h0 hs hp e hW0 hz g0 rz hrx
    go_enter Try.func22, Try.ntmps22
    go_upto_region 1 with (fail)
    rw [← HW.out.1, ← HW.out.2]
    go_upto_region 4 with (go_at_call 32; (with_reducible refine hf.mono ?_); rintro e w1 ⟨rfl, k, rfl⟩)
    have r0 := HRZ.out k
    have q0 := (HX.out k).cell 0
    have q1 := (HX.out k).cell 1
    have q2 := (HX.out k).cell 2
    have q3 := (HX.out k).cell 3
    have HBk : Hid (∀ (v0 v1 v2 v3 : Value), Below w.heap.size w (((((W0.drewN k).setCell ⟨z, 0, none⟩ v0).setCell ⟨z, 1, none⟩ v1).setCell ⟨z, 2, none⟩ v2).setCell ⟨z, 3, none⟩ v3)) := HB.out k
    clear HX
    generalize W0.drewN k = W1 at *
    have r1 := r0.set_ 0 (.int .i64 xs)
    have r2 := r1.set_ 1 (.int .i64 xp)
    have r3 := r2.set_ 2 (.int .i64 xf)
    have r4 := r3.set_ 3 (.int .u8 xn)
    have x0 := r0.cell 0
    have x1 := r1.cell 1
    have x2 := r2.cell 2
    have x3 := r3.cell 3
    have y0 := r0.frozen 0
    have y1 := r1.frozen 1
    have y2 := r2.frozen 2
    have y3 := r3.frozen 3
    have z0 := r4.cell 0
    have z1 := r4.cell 1
    have z2 := r4.cell 2
    have z3 := r4.cell 3
    clear r0 r1 r2 r3 r4
    go_wp2_with fail
    exact bodyPost_ret (v := .tuple #[.agg #[.int .i64 xs, .int .i64 xp, .int .i64 xf, .int .u8 xn], .bool true]) (by simp [results, Try.results22, go_sem, *]) rfl ⟨by rw [HV.out]; rfl, HBk.out _ _ _ _⟩
end
end Go.Proofs.Ytfalmjibpkkjaaa
