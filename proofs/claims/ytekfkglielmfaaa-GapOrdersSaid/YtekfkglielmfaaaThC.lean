/- GapOrders, walked. -/
import Derived.Test.YtekfkglielmfaaaThB
namespace Go.Proofs.Ytekfkglielmfaaa
open Go.RowKit
/-- Two rising lists of the same stretches. -/
theorem OkS.same : ∀ {A B : List (Nat × Nat)}, OkS A → OkS B → (∀ x, x ∈ A ↔ x ∈ B) → A = B
  | [], [], _, _, _ => rfl
  | [], b :: B, _, _, h => by have := (h b).2 List.mem_cons_self; cases this
  | a :: A, [], _, _, h => by have := (h a).1 List.mem_cons_self; cases this
  | a :: A, b :: B, ha, hb, h => by
    have a0 := ha.in_ a List.mem_cons_self
    have b0 := hb.in_ b List.mem_cons_self
    have hup := (List.pairwise_cons.1 ha.up).1
    have hvp := (List.pairwise_cons.1 hb.up).1
    have hab : a = b := by
      rcases List.mem_cons.1 ((h a).1 List.mem_cons_self) with e | m
      · exact e
      · rcases List.mem_cons.1 ((h b).2 List.mem_cons_self) with e | m'
        · exact e.symm
        · have := hvp a m
          have := hup b m'
          omega
    subst hab
    congr 1
    refine OkS.same ha.tail hb.tail fun x => ⟨fun m => ?_, fun m => ?_⟩
    · rcases List.mem_cons.1 ((h x).1 (List.mem_cons_of_mem _ m)) with e | m'
      · subst e
        have := hup x m
        omega
      · exact m'
    · rcases List.mem_cons.1 ((h x).2 (List.mem_cons_of_mem _ m)) with e | m'
      · subst e
        have := hvp x m
        omega
      · exact m'
/-- One of the stretches is put among some of them. -/
theorem put_one {L S : List (Nat × Nat)} (ok : OkS L) (okS : OkS S) (hs : ∀ z ∈ S, z ∈ L) {y : Nat × Nat} (hy : y ∈ L) : OkS (ptS S y.1 y.2) ∧ (∀ z ∈ ptS S y.1 y.2, z ∈ L) ∧ y ∈ ptS S y.1 y.2 ∧ (∀ z ∈ S, z ∈ ptS S y.1 y.2) := by
  have hy0 := ok.in_ y hy
  have hw : wrS y.1 y.2 = 0 := by unfold wrS; rw [if_neg (by omega)]
  refine ⟨(okS.put _ _).1, ?_⟩
  by_cases hm : y ∈ S
  · have hv : ovS S y.1 y.2 = true := List.any_eq_true.2 ⟨y, hm, decide_eq_true ⟨by omega, by omega⟩⟩
    have hE : ptE S y.1 y.2 = 7 := by unfold ptE; rw [if_neg (by rw [hw]; simp), if_pos hv]
    have hS : ptS S y.1 y.2 = S := by unfold ptS; rw [if_neg (by rw [hE]; decide)]
    rw [hS]
    exact ⟨hs, hm, fun _ h => h⟩
  · have hv : ovS S y.1 y.2 = false := by
      unfold ovS
      rw [List.any_eq_false]
      intro z hz c
      have c := of_decide_eq_true c
      have hz0 := ok.in_ z (hs z hz)
      rcases ok.apart (hs z hz) hy with e | e | e
      · exact hm (e ▸ hz)
      · omega
      · omega
    have hE : ptE S y.1 y.2 = 0 := by unfold ptE; rw [if_neg (by rw [hw]; simp), if_neg (by rw [hv]; simp)]
    have hS : ptS S y.1 y.2 = insS y.1 y.2 S := by unfold ptS; rw [if_pos hE, Int.toNat_natCast, Int.toNat_natCast]
    rw [hS]
    refine ⟨fun z hz => ?_, (insS_mem _ _ S y).2 (Or.inl rfl), fun z hz => (insS_mem _ _ S z).2 (Or.inr hz)⟩
    rcases (insS_mem _ _ S z).1 hz with e | hz
    · exact e ▸ hy
    · exact hs z hz
theorem at_has {L : List (Nat × Nat)} (ok : OkS L) {y : Nat × Nat} (hy : y ∈ L) : 0 ≤ atS L (y.1 : Nat) := by
  have h1 := ok.in_ y hy
  unfold atS
  rw [if_pos (List.any_eq_true.2 ⟨y, hy, decide_eq_true ⟨by omega, by omega⟩⟩)]
  omega
/-- Two trees beside the document's answer. -/
structure OrS (B : Nat) (w : World) (s u x : Nat) (v : Value) (L S U : List (Nat × Nat)) : Prop where
  ps : PrT B w s S
  pu : PrT B w u U
  rx : RtT B w x v L
  ne : s ≠ u
section
variable {w w' w1 w2 W W' : World} {B s u x : Nat} {v : Value} {L S U S' U' : List (Nat × Nat)}
theorem PrT.lo (h : PrT B w s S) : B ≤ s := by obtain ⟨_, _, _, _, _, _, _, h⟩ := h; exact h
theorem OrS.call (h : OrS B w s u x v L S U) (hb : Below w.heap.size w w') : OrS B w' s u x v L S U := ⟨h.ps.call hb, h.pu.call hb, h.rx.call hb, h.ne⟩
theorem OrS.putS (h : OrS B w s u x v L S U) (hp : PrT B w' s S') (hf : Foot (fun k => k = s) w w') : OrS B w' s u x v L S' U := by
  obtain ⟨o, r⟩ := h.ps.row
  exact ⟨hp, h.pu.foot hf (fun e => h.ne e.symm) (fun k e => by subst e; exact not_of r (by decide)), h.rx.prog h.ps hf, h.ne⟩
theorem OrS.putU (h : OrS B w s u x v L S U) (hp : PrT B w' u U') (hf : Foot (fun k => k = u) w w') : OrS B w' s u x v L S U' := by
  obtain ⟨o, r⟩ := h.pu.row
  exact ⟨h.ps.foot hf h.ne (fun k e => by subst e; exact not_of r (by decide)), hp, h.rx.prog h.pu hf, h.ne⟩
theorem keep_l3 {g j : Nat} {a c d : Value} (hb : Below W.heap.size W W') (h : W.cell? ⟨x, 0, none⟩ = some a ∧ W.cell? ⟨g, j * 2, none⟩ = some c ∧ W.cell? ⟨g, j * 2 + 1, none⟩ = some d) : W'.cell? ⟨x, 0, none⟩ = some a ∧ W'.cell? ⟨g, j * 2, none⟩ = some c ∧ W'.cell? ⟨g, j * 2 + 1, none⟩ = some d :=
  ⟨keep_cell hb h.1, keep_cell hb h.2.1, keep_cell hb h.2.2⟩
/-- The list's own cells stay at a call of a tree. -/
theorem list_foot {g j n c : Nat} (h : RtT B w x (.slice (some ⟨g, 0, none⟩) n c) L) (hp : PrT B w s S) (hf : Foot (fun k => k = s) w w') {a b d : Value} (hs : w.cell? ⟨x, 0, none⟩ = some a ∧ w.cell? ⟨g, j * 2, none⟩ = some b ∧ w.cell? ⟨g, j * 2 + 1, none⟩ = some d) :
    w'.cell? ⟨x, 0, none⟩ = some a ∧ w'.cell? ⟨g, j * 2, none⟩ = some b ∧ w'.cell? ⟨g, j * 2 + 1, none⟩ = some d := by
  obtain ⟨o, r⟩ := hp.row
  have hx : ¬ x = s := fun e => r.apart h.1 (by decide) e.symm
  have hg : ¬ g = s := fun e => by
    obtain ⟨vs, r', -⟩ := h.2.1.block (g := g) rfl
    exact r.apart r' (by decide) e.symm
  exact ⟨foot_cell hf hs.1 hx, foot_cell hf hs.2.1 hg, foot_cell hf hs.2.2 hg⟩
end
set_option maxHeartbeats 16000000 in
set_option maxRecDepth 100000 in
theorem orders_walk (A : Option Addr) (n c : Nat) (fr : Int) (k : Ak) (w : World) (hA : Acs w w.heap.size A n) (hfr : 0 ≤ fr ∧ fr < 256) : Calls Try.prog 7 #[.slice A n c, .int .u8 fr, .agg #[.int .i64 k.u, .int .i64 k.n, .int .i64 k.o]] w fun e w' => e = .returned (.bool true) ∧ Below w.heap.size w w' := by
  obtain ⟨M, hM, hA⟩ := hA.list
  obtain ⟨W0, hW0⟩ : ∃ W0, W0 = w.alloc (.cells #[.int .i64 k.u, .int .i64 k.n, .int .i64 k.o] 40) := ⟨_, rfl⟩
  obtain ⟨q, hq⟩ : ∃ q, q = w.heap.size := ⟨_, rfl⟩
  have b0 : Below w.heap.size w W0 := by rw [hW0]; exact below_new _ _
  have rs : Lrow W0 q 40 [.int .i64 k.u, .int .i64 k.n, .int .i64 k.o] := by rw [hW0, hq]; exact Lrow.new w _ _
  obtain ⟨ku, kn, ko⟩ := k
  dsimp only at *
  have hmade := made_any A n c w.heap.size M W0 hM (hA.below b0) b0.size
  have HR := Lib.hid rs
  have HB := Lib.hid b0
  have HW := Lib.hid (And.intro hW0 hq)
  clear hW0 hq b0 rs hA hM
  go_enter Try.func7, Try.ntmps7
  go_upto_region 1 with (fail)
  rw [← HW.out.1, ← HW.out.2]
  go_wp2_with fail
  refine hmade.mono ?_
  rintro e w1 ⟨t, x, rfl, L, hlen, hst, b1⟩
  have HLN := Lib.hid hlen
  have HS1 := Lib.hid (And.intro hst b1)
  have h2 := new_p w1
  clear hmade hlen hst b1
  go_wp2_with fail
  refine h2.mono ?_
  rintro e w2 ⟨s, rfl, hps, b2⟩
  have HS2 : Hid (PrT W0.heap.size w2 s [] ∧ StT W0.heap.size w2 t x L ∧ Below W0.heap.size W0 w2) := ⟨hps.base HS1.out.2.size, HS1.out.1.call b2, HS1.out.2.trans (b2.mono HS1.out.2.size)⟩
  have h3 := new_p w2
  clear h2 hps b2 HS1
  go_wp2_with fail
  refine h3.mono ?_
  rintro e w3 ⟨u, rfl, hpu, b3⟩
  obtain ⟨v, hv⟩ := HS2.out.2.1.2.1
  have hok := HS2.out.2.1.ok
  have HS3 : Hid (OrS W0.heap.size w3 s u x v L [] [] ∧ Below W0.heap.size W0 w3) := ⟨⟨HS2.out.1.call b3, hpu.base HS2.out.2.2.size, hv.call b3, fun e => by have := hpu.lo; have := HS2.out.1.lt; omega⟩, HS2.out.2.2.trans (b3.mono HS2.out.2.2.size)⟩
  have h4 := awake_any w3
  have HOK := Lib.hid hok
  clear h3 hpu b3 hv hok HS2
  go_wp2_with fail
  refine h4.mono ?_
  rintro e w4 ⟨rfl, b4⟩
  have HS4 : Hid (OrS W0.heap.size w4 s u x v L [] [] ∧ Below W0.heap.size W0 w4) := ⟨HS3.out.1.call b4, HS3.out.2.trans (b4.mono HS3.out.2.size)⟩
  obtain ⟨A2, c2, hv2⟩ := HS4.out.1.rx.2.1.form
  obtain ⟨N, hN⟩ : ∃ N, N = L.length := ⟨_, rfl⟩
  rw [← hN] at hv2 HLN
  subst hv2
  have x0 : w4.cell? ⟨x, 0, none⟩ = some (.slice A2 N c2) := HS4.out.1.rx.1.cell 0
  have HNL := Lib.hid hN
  have N90 := HLN.out
  clear h4 b4 HS3 hN
  go_upto_region 8 with (fail)
  clear x0
  go_loopw [13] (fun i wr => ∃ (j : Nat) (S : List (Nat × Nat)), j ≤ N ∧ i = .int .i64 j ∧ OrS W0.heap.size wr s u x (.slice A2 N c2) L S [] ∧ (∀ z ∈ S, z ∈ L) ∧ Below W0.heap.size W0 wr) (fun i _ => N - (RowKit.intOf i).toNat)
  case atStart => exact ⟨0, [], Nat.zero_le _, rfl, HS4.out.1, fun z h => (by cases h), HS4.out.2⟩
  case round =>
    obtain ⟨j, S, hj, rfl, hor, hsub, hb⟩ := hrel
    have HO := Lib.hid hor
    have HSB := Lib.hid hsub
    have HBL := Lib.hid hb
    have x0 : wr.cell? ⟨x, 0, none⟩ = some (.slice A2 N c2) := hor.rx.1.cell 0
    by_cases hlt : j < N
    · obtain ⟨r, hr⟩ : ∃ r : Nat, r = (j * 7 + fr.toNat) % N := ⟨_, rfl⟩
      have hrN : r < N := by rw [hr]; exact Nat.mod_lt _ (by omega)
      have hrL : r < L.length := by have := HNL.out; omega
      obtain ⟨g, rfl, -, hgl, d0, d1⟩ := hor.rx.at_ hrL
      have hmem : L[r] ∈ L := List.getElem_mem hrL
      have hpo := put_one HOK.out hor.ps.ok hsub hmem
      have hat := at_has HOK.out hmem
      generalize L[r] = y at d0 d1 hpo hat hmem
      obtain ⟨y0, y1⟩ := y
      dsimp only at d0 d1 hpo hat
      have c1 : (j : Int) < N := by omega
      have j0 : (0 : Int) ≤ j := by omega
      have n0 : ¬ (N : Int) = 0 := by omega
      have n1 : ((N : Int) == 0) = false := by simpa using n0
      have n2 : ¬ N = 0 := by omega
      have n3 : (N == 0) = false := by simpa using n2
      have r1 : (r : Int) < N := by omega
      have r0 : (0 : Int) ≤ r := by omega
      have e1 : IntKind.i64.wrap ((j : Int) * 7) = (j : Int) * 7 := IntWalk.i64_in _ (by omega)
      have e2 : IntKind.i64.wrap ((j : Int) * 7 + fr) = (j : Int) * 7 + fr := IntWalk.i64_in _ (by omega)
      have e0 : IntKind.i64.wrap fr = fr := IntWalk.i64_in _ (by omega)
      have e3 : Int.tmod ((j : Int) * 7 + fr) N = r := by
        have : (j : Int) * 7 + fr = ((j * 7 + fr.toNat : Nat) : Int) := by omega
        rw [this, hr]; rfl
      have e4 : ((j : Int) * 7 + fr) % N = r := by
        have : (j : Int) * 7 + fr = ((j * 7 + fr.toNat : Nat) : Int) := by omega
        rw [this, hr]; rfl
      have e5 : IntKind.i64.wrap (r : Int) = r := IntWalk.i64_in _ (by omega)
      have hw3 : IntKind.i64.wrap ((j : Int) + 1) = (j : Int) + 1 := IntWalk.i64_in _ (by omega)
      have hs : wr.cell? ⟨x, 0, none⟩ = some (.slice (some ⟨g, 0, none⟩) N c2) ∧ wr.cell? ⟨g, r * 2, none⟩ = some (.int .i64 y0) ∧ wr.cell? ⟨g, r * 2 + 1, none⟩ = some (.int .i64 y1) := ⟨x0, d0, d1⟩
      have HPO := Lib.hid hpo
      have HAT := Lib.hid (And.intro hat hmem)
      have HJ := Lib.hid hlt
      clear hor hsub hb hpo hat hmem hr hrN hrL hgl hlt x0 d0 d1
      go_upto_region 10 with (fail)
      go_cut [14] from 52 to 65 (fun s14 wx => ∃ q2, s14 = .pointer (some ⟨q2, 0, none⟩) ∧ Lrow wx q2 31 [.int .i64 y0, .int .i64 y1] ∧ Below wr.heap.size wr wx)
      case first =>
        go_region_held3 (fun v => v.cell? ⟨x, 0, none⟩ = some (.slice (some ⟨g, 0, none⟩) N c2) ∧ v.cell? ⟨g, r * 2, none⟩ = some (.int .i64 y0) ∧ v.cell? ⟨g, r * 2 + 1, none⟩ = some (.int .i64 y1))
          (first | exact hs | exact keep_l3 (below_new wr.drew _) hs)
          (fail)
        all_goals
          go_wp2_with fail
          go_meet
          exact ⟨_, rfl, Lrow.new wr _ _, (below_new wr _).trans (below_dN (Below.refl _ _) 1)⟩
      case rest =>
        obtain ⟨q2, rfl, r2, b2⟩ := hcut
        have hor := HO.out.call b2
        have hbl := HBL.out.trans (b2.mono HBL.out.size)
        have HO2 := Lib.hid hor
        have HB2 := Lib.hid hbl
        have z0 := r2.cell 0
        have z1 := r2.cell 1
        have hqs : ¬ q2 = s := fun e => by
          obtain ⟨o, r⟩ := hor.ps.row
          exact r.apart r2 (by decide) e.symm
        have hP := put_p hor.ps y0 y1
        have HZ := Lib.hid z0
        clear hor hbl r2 b2 hs e0 e1 e2 e3 e4 e5 n0 n1 n2 n3 r0 r1
        obtain ⟨E, hE⟩ : ∃ E, E = ptE S y0 y1 := ⟨_, rfl⟩
        rw [← hE] at hP
        clear hE
        by_cases hE0 : E = 0
        · subst hE0
          go_wp2_with (first | (go_at_call 23; (with_reducible refine hP.mono ?_); rintro e w6 ⟨rfl, hp6, f6⟩) | fail)
          go_roundw
          case rel => exact ⟨j + 1, ptS S y0 y1, HJ.out, by go_num, HO2.out.putS hp6 f6, HPO.out.2.1, foot_blw f6 HB2.out HB2.out.size HO2.out.ps.lo⟩
          case measure => simp [RowKit.intOf]; have := HJ.out; omega
        · have hE1 : (E == 0) = false := by simpa using hE0
          have hE2 : (E != 0) = true := by simpa using hE0
          have hA0 : ¬ atS L (y0 : Nat) < 0 := by have := HAT.out.1; omega
          have hAD : Hid (∀ W, RtT W0.heap.size W x (.slice (some ⟨g, 0, none⟩) N c2) L → Calls Try.prog 13 #[.pointer (some ⟨x, 0, none⟩), .int .i64 y0] W fun e w' => e = .returned (.int .i64 (atS L (y0 : Nat))) ∧ Below W.heap.size W w') := fun W h => rat h (by have := HNL.out; omega) _
          generalize atS L (y0 : Nat) = T0 at hA0 hAD
          go_wp2_with (first | (go_at_call 23; (with_reducible refine hP.mono ?_); rintro e w6 ⟨rfl, hp6, f6⟩; clear z0 z1; have z0 := foot_cell f6 HZ.out hqs; have hT := hAD.out _ (HO2.out.putS hp6 f6).rx) | (go_at_call 13; (with_reducible refine hT.mono ?_); rintro e w7 ⟨rfl, b7⟩) | fail)
          go_roundw
          case rel => exact ⟨j + 1, ptS S y0 y1, HJ.out, by go_num, (HO2.out.putS hp6 f6).call b7, HPO.out.2.1, (foot_blw f6 HB2.out HB2.out.size HO2.out.ps.lo).trans (b7.mono (foot_blw f6 HB2.out HB2.out.size HO2.out.ps.lo).size)⟩
          case measure => simp [RowKit.intOf]; have := HJ.out; omega
    · obtain rfl : j = N := by omega
      have c1 : ¬ (j : Int) < j := by omega
      obtain ⟨w5, hn5⟩ : ∃ x, x = wr := ⟨_, rfl⟩
      subst hn5
      clear hor hsub hb hlt x0 hj
      go_upto_region 14 with (fail)
      clear c1
      go_loopw [15] (fun i wr => ∃ (i0 : Nat) (S U : List (Nat × Nat)), i0 ≤ j ∧ i = .int .i64 i0 ∧ OrS W0.heap.size wr s u x (.slice A2 j c2) L S U ∧ ((∀ z ∈ S, z ∈ L) ∧ (∀ z ∈ U, z ∈ L) ∧ (∀ r (hr : r < L.length), r < i0 → L[r] ∈ S) ∧ (∀ r (hr : r < L.length), j ≤ r + i0 → L[r] ∈ U)) ∧ Below W0.heap.size W0 wr) (fun i _ => j - (RowKit.intOf i).toNat)
      case atStart => exact ⟨0, S, [], Nat.zero_le _, rfl, HO.out, ⟨HSB.out, fun z h => (by cases h), fun r hr h => (by omega), fun r hr h => (by have := HNL.out; omega)⟩, HBL.out⟩
      case round =>
        clear HO HSB HBL
        obtain ⟨i, S, U, hi, rfl, hor, hsub, hb⟩ := hrel
        have HO := Lib.hid hor
        have HSB := Lib.hid hsub
        have HBL := Lib.hid hb
        have x0 : wr.cell? ⟨x, 0, none⟩ = some (.slice A2 j c2) := hor.rx.1.cell 0
        by_cases hlt : i < j
        · have hiL : i < L.length := by have := HNL.out; omega
          obtain ⟨r, hr⟩ : ∃ r : Nat, r = j - 1 - i := ⟨_, rfl⟩
          have hrj : r < j := by omega
          have hrL : r < L.length := by have := HNL.out; omega
          obtain ⟨g, rfl, -, hgl, d0, d1⟩ := hor.rx.at_ hiL
          obtain ⟨g', hg', -, hgl', f0, f1⟩ := hor.rx.at_ hrL
          simp only [Option.some.injEq, Addr.mk.injEq] at hg'
          obtain ⟨rfl, -⟩ := hg'
          have hm1 : L[i] ∈ L := List.getElem_mem hiL
          have hm2 : L[r] ∈ L := List.getElem_mem hrL
          have HP1 := Lib.hid (put_one HOK.out hor.ps.ok hsub.1 hm1)
          have HP2 := Lib.hid (put_one HOK.out hor.pu.ok hsub.2.1 hm2)
          have HI1 : Hid (∀ k (hk : k < L.length), k < i + 1 → L[k] = L[i] ∨ L[k] ∈ S) := fun k hk h => by
            by_cases e : k = i
            · subst e; exact Or.inl rfl
            · exact Or.inr (hsub.2.2.1 k hk (by omega))
          have HI2 : Hid (∀ k (hk : k < L.length), j ≤ k + (i + 1) → L[k] = L[r] ∨ L[k] ∈ U) := fun k hk h => by
            by_cases e : k = r
            · subst e; exact Or.inl rfl
            · exact Or.inr (hsub.2.2.2 k hk (by omega))
          generalize L[i] = y at d0 d1 HP1 HI1 hm1
          generalize L[r] = y' at f0 f1 HP2 HI2 hm2
          obtain ⟨y0, y1⟩ := y
          obtain ⟨z0, z1⟩ := y'
          dsimp only at d0 d1 f0 f1
          have c1 : (i : Int) < j := by omega
          have i0 : (0 : Int) ≤ i := by omega
          have r1 : (r : Int) < j := by omega
          have r0 : (0 : Int) ≤ r := by omega
          have e1 : IntKind.i64.wrap ((j : Int) - 1) = (j : Int) - 1 := IntWalk.i64_in _ (by omega)
          have e2 : IntKind.i64.wrap ((j : Int) - 1 - i) = r := by rw [hr]; rw [IntWalk.i64_in _ (by omega)]; omega
          have hw3 : IntKind.i64.wrap ((i : Int) + 1) = (i : Int) + 1 := IntWalk.i64_in _ (by omega)
          have hs : wr.cell? ⟨x, 0, none⟩ = some (.slice (some ⟨g, 0, none⟩) j c2) ∧ wr.cell? ⟨g, i * 2, none⟩ = some (.int .i64 y0) ∧ wr.cell? ⟨g, i * 2 + 1, none⟩ = some (.int .i64 y1) := ⟨x0, d0, d1⟩
          have hs' : wr.cell? ⟨x, 0, none⟩ = some (.slice (some ⟨g, 0, none⟩) j c2) ∧ wr.cell? ⟨g, r * 2, none⟩ = some (.int .i64 z0) ∧ wr.cell? ⟨g, r * 2 + 1, none⟩ = some (.int .i64 z1) := ⟨x0, f0, f1⟩
          have HJ := Lib.hid hlt
          have hod := hor.call (below_dN (Below.refl wr.heap.size wr) 1)
          have HOD := Lib.hid hod
          have hPs := put_p (w := wr.drew) hod.ps y0 y1
          clear hor hod hsub hb hm1 hm2 hr hrj hrL hiL hgl hgl' hlt x0 d0 d1 f0 f1
          go_upto_region 16 with (fail)
          go_region_held3 (fun v => v.cell? ⟨x, 0, none⟩ = some (.slice (some ⟨g, 0, none⟩) j c2) ∧ v.cell? ⟨g, i * 2, none⟩ = some (.int .i64 y0) ∧ v.cell? ⟨g, i * 2 + 1, none⟩ = some (.int .i64 y1))
            (first | exact hs | exact hs6)
            (first | (go_at_call 23; (with_reducible refine hPs.mono ?_); rintro e w6 ⟨rfl, hp6, f6⟩; have hs6 := list_foot (w := wr.drew) HOD.out.rx HOD.out.ps f6 hs) | fail)
          all_goals
            have hs7 := list_foot (w := wr.drew) HOD.out.rx HOD.out.ps f6 hs'
            have ho6 := HOD.out.putS hp6 f6
            have hb6 := foot_blw f6 (below_dN HBL.out 1) HBL.out.size HOD.out.ps.lo
            have hod6 := ho6.call (below_dN (Below.refl w6.heap.size w6) 1)
            have HOD6 := Lib.hid hod6
            have HB6 := Lib.hid hb6
            have hPu := put_p (w := w6.drew) hod6.pu z0 z1
            clear hs hs' hs6 hPs hp6 ho6 hb6 hod6
            go_upto_region 17 with (fail)
            go_region_held3 (fun v => v.cell? ⟨x, 0, none⟩ = some (.slice (some ⟨g, 0, none⟩) j c2) ∧ v.cell? ⟨g, r * 2, none⟩ = some (.int .i64 z0) ∧ v.cell? ⟨g, r * 2 + 1, none⟩ = some (.int .i64 z1))
              (first | exact hs7 | exact hs8)
              (first | (go_at_call 23; (with_reducible refine hPu.mono ?_); rintro e w7 ⟨rfl, hp7, f7⟩; have hs8 := list_foot (w := w6.drew) HOD6.out.rx HOD6.out.pu f7 hs7) | fail)
            all_goals
              have ho7 := HOD6.out.putU hp7 f7
              have hb7 := foot_blw f7 (below_dN HB6.out 1) HB6.out.size HOD6.out.pu.lo
              have HO7 := Lib.hid (And.intro ho7 hb7)
              clear hs7 hs8 hPu hp7 ho7 hb7 e1 e2 r0 r1
              go_wp2_with fail
              go_roundw
              case rel =>
                refine ⟨i + 1, ptS S y0 y1, ptS U z0 z1, HJ.out, by go_num, HO7.out.1, ⟨HP1.out.2.1, HP2.out.2.1, fun k hk h => ?_, fun k hk h => ?_⟩, HO7.out.2⟩
                · rcases HI1.out k hk h with e | e
                  · rw [e]; exact HP1.out.2.2.1
                  · exact HP1.out.2.2.2 _ e
                · rcases HI2.out k hk h with e | e
                  · rw [e]; exact HP2.out.2.2.1
                  · exact HP2.out.2.2.2 _ e
              case measure => simp [RowKit.intOf]; have := HJ.out; omega
        · obtain rfl : i = j := by omega
          have hSL : S = L := hor.ps.ok.same HOK.out fun z => ⟨hsub.1 z, fun hz => by
            obtain ⟨r, hr, rfl⟩ := List.mem_iff_getElem.1 hz
            exact hsub.2.2.1 r hr (by have := HNL.out; omega)⟩
          have hUL : U = L := hor.pu.ok.same HOK.out fun z => ⟨hsub.2.1 z, fun hz => by
            obtain ⟨r, hr, rfl⟩ := List.mem_iff_getElem.1 hz
            exact hsub.2.2.2 r hr (by omega)⟩
          rw [hSL, hUL] at hor
          clear hSL hUL hsub
          have HO := Lib.hid hor
          have c1 : ¬ (i : Int) < i := by omega
          have rs5 := HR.out.call hb
          have q0 := rs5.cell 0
          have q1 := rs5.cell 1
          have q2 := rs5.cell 2
          have hR1 := room_t hor.ps ku kn ko
          clear hor hb hlt hi rs5 x0 HSB
          go_upto_region 19 with (first | (go_at_call 19; (with_reducible refine hR1.mono ?_); rintro e w6 ⟨p1, er1, rfl, hr1, b6⟩; clear q0 q1 q2) | fail)
          have HB6 := Lib.hid (HBL.out.trans (b6.mono HBL.out.size))
          have ho6 := HO.out.call b6
          have rs6 := HR.out.call HB6.out
          have q0 := rs6.cell 0
          have q1 := rs6.cell 1
          have q2 := rs6.cell 2
          have hR2 := room_t ho6.pu ku kn ko
          have HO6 := Lib.hid ho6
          clear hR1 b6 ho6 rs6
          go_upto_region 20 with (first | (go_at_call 19; (with_reducible refine hR2.mono ?_); rintro e w7 ⟨p2, er2, rfl, hr2, b7⟩; clear q0 q1 q2) | fail)
          obtain ⟨ep, ee⟩ := hr1.one hr2
          subst ep
          subst ee
          have HB7 := Lib.hid (HB6.out.trans (b7.mono HB6.out.size))
          have ho7 := HO6.out.call b7
          have hs : w7.cell? ⟨x, 0, none⟩ = some (.slice A2 i c2) := ho7.rx.1.cell 0
          have hiL : i = L.length := HNL.out
          subst hiL
          have cA := all_w ho7.ps
          have cB := all_w ho7.pu
          have cG := greatest_w ho7.ps
          have cH := greatest_w ho7.pu
          have cS := same_w ho7.rx (by have := HLN.out; omega)
          obtain ⟨G, hG⟩ : ∃ G, G = grb (tkS L) 4095 := ⟨_, rfl⟩
          rw [← hG] at cG cH
          clear hR2 b7 ho7 hr1 hr2 hG HNL HLN N90 c1
          go_region_held3 (fun v => v.cell? ⟨x, 0, none⟩ = some (.slice A2 L.length c2))
            (first | exact hs | exact hsa | exact hsb | exact hsc | exact hsd | exact hse | exact hsf)
            (first | (go_at_call 15; (with_reducible refine (cA _ ?_).mono ?_); (focus exact below_dN (Below.refl _ _) _); rintro e wa ⟨A1, c1, rfl, ho1, ba0, ba⟩; have hsa := keep_cell ba hs) | (go_at_call 14; (with_reducible refine (cS _ _ _ ?_ ?_).mono ?_); (focus exact ba); (focus exact ho1); rintro e wb ⟨rfl, bb0, bb⟩; have hsb := keep_cell bb hs) | (go_at_call 15; (with_reducible refine (cB _ ?_).mono ?_); (focus exact bb); rintro e wc ⟨A3, c3, rfl, ho3, bc0, bc⟩; have hsc := keep_cell bc hs) | (go_at_call 14; (with_reducible refine (cS _ _ _ ?_ ?_).mono ?_); (focus exact bc); (focus exact ho3); rintro e wd ⟨rfl, bd0, bd⟩; have hsd := keep_cell bd hs) | (go_at_call 17; (with_reducible refine (cG _ ?_).mono ?_); (focus exact bd); rintro e we ⟨rfl, be0, be⟩; have hse := keep_cell be hs) | (go_at_call 17; (with_reducible refine (cH _ ?_).mono ?_); (focus exact be); rintro e wf ⟨rfl, bf0, bf⟩; have hsf := keep_cell bf hs) | fail)
          all_goals
            go_wp2_with fail
            go_ret
            exact ⟨rfl, HB.out.trans ((HB7.out.trans (bf.mono HB7.out.size)).mono HB.out.size)⟩
end Go.Proofs.Ytekfkglielmfaaa
