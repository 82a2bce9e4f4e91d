/- The pieces put down by kinds, and the best of each kind: plain mathematics. -/
import Derived.Test.YtklhcgekagimkaaGreatMg19
namespace Go.Proofs.YtklhcgekagimkaaGreat

def putL (S : List Nat) (o : Nat) (M : Nat → List (Nat × Nat)) (l : List (Nat × Nat)) : Nat → List (Nat × Nat) := l.foldl (putM S o) M
theorem putL_append (S : List Nat) (o : Nat) (M : Nat → List (Nat × Nat)) (l m : List (Nat × Nat)) : putL S o M (l ++ m) = putL S o (putL S o M l) m := by unfold putL; rw [List.foldl_append]
theorem putL_snoc (S : List Nat) (o : Nat) (M : Nat → List (Nat × Nat)) (l : List (Nat × Nat)) (x : Nat × Nat) : putL S o M (l ++ [x]) = putM S o (putL S o M l) x := by rw [putL_append]; rfl
/-- The pieces of a kind that have the order. -/
def selB (S : List Nat) (o kd : Nat) (x : Nat × Nat) : Bool := decide (o ≤ x.2) && knd S x.1 == kd
theorem putL_at (S : List Nat) (o kd : Nat) (l : List (Nat × Nat)) : putL S o (fun _ => []) l kd = l.filter (selB S o kd) := by
  induction l using rev_ind with
  | h0 => rfl
  | h1 l x ih =>
    rw [putL_snoc, List.filter_append, ← ih]
    unfold putM
    by_cases ho : o ≤ x.2
    · rw [if_pos ho]
      by_cases hk : kd = knd S x.1
      · subst hk
        rw [updF_same]
        simp [selB, ho]
      · rw [updF_other _ _ hk]
        have hk' : ¬ knd S x.1 = kd := fun e => hk e.symm
        simp [selB, hk']
    · rw [if_neg ho]
      simp [selB, ho]
theorem putL_len (S : List Nat) (o kd : Nat) (l : List (Nat × Nat)) : (putL S o (fun _ => []) l kd).length ≤ l.length := by
  rw [putL_at]; exact List.length_filter_le _ _
/-- The best of those that are selected is what the search finds. -/
theorem fnd_bst (S : List Nat) (o kd : Nat) (great : Bool) (l : List (Nat × Nat)) : fnd S o kd great l = bstB great (l.filter (selB S o kd)) := by
  induction l using rev_ind with
  | h0 => rfl
  | h1 l x ih =>
    rw [fnd_snoc, List.filter_append, ih]
    unfold fnd1
    by_cases hc : x.2 < o ∨ knd S x.1 ≠ kd
    · rw [if_pos hc]
      have : selB S o kd x = false := by
        unfold selB
        rcases hc with h | h
        · rw [decide_eq_false (by omega)]; rfl
        · simp [h]
      simp [this]
    · rw [if_neg hc]
      have h1 : o ≤ x.2 := by omega
      have h2 : knd S x.1 = kd := Decidable.byContradiction fun h => hc (Or.inr h)
      have : selB S o kd x = true := by simp [selB, h1, h2]
      rw [show List.filter (selB S o kd) [x] = [x] by simp [this], bstB_snoc]
      rfl
/-- As many blocks that lie one behind the other as there are frames, at the most. -/
theorem rise_len : ∀ (l : List (Nat × Nat)) (N a : Nat), Rise l → (∀ x ∈ l, a ≤ x.1 ∧ x.1 + 2 ^ x.2 ≤ N) → a ≤ N → a + l.length ≤ N := by
  intro l
  induction l with
  | nil => intro N a _ _ h; simpa using h
  | cons x r ih =>
    intro N a hR h _
    obtain ⟨h1, h2⟩ := List.pairwise_cons.1 hR
    have hx := h x List.mem_cons_self
    have hp := two_pos x.2
    have := ih N (x.1 + 2 ^ x.2) h2 (fun y hy => ⟨h1 y hy, (h y (List.mem_cons_of_mem _ hy)).2⟩) hx.2
    simp only [List.length_cons]
    omega
theorem pcs_len (F : List Bool) (S : List Nat) : (pcs F S).length ≤ F.length := by
  have := rise_len (pcs F S) F.length 0 (pcs_rise F S) (fun x hx => ⟨Nat.zero_le _, (pcs_fre hx).2.2⟩) (Nat.zero_le _)
  omega
/-- The pieces of some blocks. -/
def pcsL (S : List Nat) (l : List (Nat × Nat)) : List (Nat × Nat) := l.flatMap (pcs1 S)
theorem pcsL_snoc (S : List Nat) (l : List (Nat × Nat)) (x : Nat × Nat) : pcsL S (l ++ [x]) = pcsL S l ++ pcs1 S x := by simp [pcsL]
theorem pcsL_all (F : List Bool) (S : List Nat) : pcsL S (bk F) = pcs F S := rfl
theorem pcsL_take_len {F : List Bool} (S : List Nat) (j : Nat) : (pcsL S ((bk F).take j)).length ≤ F.length := by
  have h : pcs F S = pcsL S ((bk F).take j) ++ pcsL S ((bk F).drop j) := by
    unfold pcs pcsL
    rw [← List.flatMap_append, List.take_append_drop]
  have := congrArg List.length h
  rw [List.length_append] at this
  have := pcs_len F S
  omega
/-- Does a section under a block have the kind 3? -/
theorem iso_any (S : List Nat) (f k : Nat) : iso S (f, k) = (List.range (upr f k - f / 8)).any fun j => ((S.getD (f / 8 + j) 0 : Nat) : Int) == 3 := by
  have hp := two_pos k
  unfold iso
  rw [Bool.eq_iff_iff, List.any_eq_true, List.any_eq_true]
  constructor
  · rintro ⟨i, hi, h⟩
    have hi' := List.mem_range.1 hi
    refine ⟨(f + i) / 8 - f / 8, List.mem_range.2 (by unfold upr; simp only at hi'; omega), ?_⟩
    have e : f / 8 + ((f + i) / 8 - f / 8) = (f + i) / 8 := by omega
    have h3 : knd S (f + i) = 3 := by simpa using h
    unfold knd at h3
    rw [e, h3]; rfl
  · rintro ⟨j, hj, h⟩
    have hj' := List.mem_range.1 hj
    unfold upr at hj'
    refine ⟨(f / 8 + j) * 8 - f, List.mem_range.2 (by simp only; omega), ?_⟩
    have h3 : S.getD (f / 8 + j) 0 = 3 := by
      have := eq_of_beq h
      omega
    have e : (f + ((f / 8 + j) * 8 - f)) / 8 = f / 8 + j := by omega
    unfold knd
    simp only
    rw [e, h3]; rfl
theorem upr_even {f k : Nat} (hf : f % 2 ^ k = 0) (hk : 3 < k) : upr f k - f / 8 = 2 ^ (k - 3) := by
  obtain ⟨d, rfl⟩ : ∃ d, k = d + 3 := ⟨k - 3, by omega⟩
  have hp : 2 ^ (d + 3) = 2 ^ d * 8 := by rw [Nat.pow_add]
  have := two_pos d
  rw [hp] at hf
  have h8 : f % 8 = 0 := Nat.mod_eq_zero_of_dvd (Nat.dvd_trans (Nat.dvd_mul_left 8 (2 ^ d)) (Nat.dvd_of_mod_eq_zero hf))
  unfold upr
  rw [hp, Nat.add_sub_cancel]
  omega
theorem pcs1_one {S : List Nat} {f k : Nat} (h : k ≤ 3 ∨ iso S (f, k) = false) : pcs1 S (f, k) = [(f, k)] := by unfold pcs1; rw [if_pos h]
theorem pcs1_many {S : List Nat} {f k : Nat} (h1 : 3 < k) (h2 : iso S (f, k) = true) : pcs1 S (f, k) = (List.range (2 ^ (k - 3))).map fun i => (f + i * 8, 3) := by
  unfold pcs1
  rw [if_neg (by rintro (h | h); simp only at h; omega; rw [h2] at h; cases h)]
end Go.Proofs.YtklhcgekagimkaaGreat
/- The pieces of free frames, put down by kinds. -/
namespace Go.Proofs.YtklhcgekagimkaaGreat
variable {Xc : Nat → Prop}
open Go.RowKit

theorem putter_any (k p : Nat) (o : Int) (w : World) : Calls Tryz.prog 111 #[.pointer (some ⟨k, 0, none⟩), .pointer (some ⟨p, 0, none⟩), .int .i64 o] w fun e w' =>
    e = .returned (.func (.func 129) #[] #[.pointer (some ⟨w.heap.size + 1 + 1, 0, none⟩), .pointer (some ⟨w.heap.size, 0, none⟩), .pointer (some ⟨w.heap.size + 1, 0, none⟩)]) ∧
    w' = ((w.alloc (.cells #[.pointer (some ⟨k, 0, none⟩)] 73)).alloc (.cells #[.pointer (some ⟨p, 0, none⟩)] 125)).alloc (.cells #[.int .i64 o] 3) := by
  have hmf : ∀ (fn : Fn) (first cap : Array Value) (w : World), (Instr.makeFunc fn first cap).run Tryz.prog w = .ok (.func fn first cap) w := fun _ _ _ _ => rfl
  go_enter Tryz.func111, Tryz.ntmps111
  go_wp2
  go_ret
  exact ⟨rfl, rfl⟩
theorem Beside.below {p B : Nat} {w w' : World} {V V' : Nat → Value} (h : Beside p w V w' V') (hV : ∀ i, i ≤ 3 → ∀ b, (V i).ownBlock = some b → B ≤ b) (h1 : B ≤ p) (h2 : B ≤ w.heap.size) : Below B w w' :=
  ⟨h.os, h.tape, h.output, h.size, fun b hb => h.block b (by omega) (by omega) (fun i hi e => by have := hV i hi b e; omega)⟩
theorem BlkRow.beside {p : Nat} {w w' : World} {V V' : Nat → Value} {A : Option Addr} {M : List (Nat × Nat)} {vs : List Value} (h : BlkRow w A M) (hp : Lrow w p 145 vs) (hb : Beside p w V w' V') (hV : ∀ i, i ≤ 3 → (V i).ownBlock = none) : BlkRow w' A M := fun hn => by
  obtain ⟨g, us, e, r, t⟩ := h hn
  exact ⟨g, us, e, hb.row r (r.apart hp (by decide)) (fun i hi => by rw [hV i hi]; simp), t⟩
section
variable {w : World} {B k a g n : Nat} {F : List Bool} {S : List Nat}
/-- The pieces by kinds. -/
def Cut (k o : Nat) (M : Nat → List (Nat × Nat)) (w : World) (e : Ending) (w' : World) : Prop :=
  e = .returned (.pointer (some ⟨w.heap.size, 0, none⟩)) ∧ Below w.heap.size w w' ∧ ∃ ob kb lb V, PutX w' k w.heap.size o ob kb lb V M
set_option maxHeartbeats 1000000 in
set_option maxRecDepth 100000 in
theorem cut_any (h : KinX Xc B w k a g n F S) (o : Nat) :
    Calls Tryz.prog 90 #[.pointer (some ⟨k, 0, none⟩), .int .i64 o] w (Cut k o (putL S o (fun _ => []) (pcs F S)) w) := by
  obtain ⟨W1, hW1⟩ : ∃ W, W = w.alloc (.cells #[.slice none 0 0, .slice none 0 0, .slice none 0 0, .slice none 0 0] 145) := ⟨_, rfl⟩
  obtain ⟨p, hp⟩ : ∃ q, q = w.heap.size := ⟨_, rfl⟩
  have hB1 : Below w.heap.size w W1 := by rw [hW1]; exact (Below.refl _ _).alloc (Nat.le_refl _) _
  have hr1 : Lrow W1 p 145 [.slice none 0 0, .slice none 0 0, .slice none 0 0, .slice none 0 0] := by rw [hW1, hp]; exact Lrow.new w _ _
  have hPT := putter_any k p o W1
  have HR1 := Lib.hid hr1
  have HB1 := Lib.hid hB1
  have HW1 := Lib.hid hW1
  have HPQ := Lib.hid hp
  have HK := Lib.hid h
  have HPT := Lib.hid hPT
  clear hr1 hB1 hW1 hp h hPT
  go_enter Tryz.func90, Tryz.ntmps90
  go_wp2_with fail
  rw [← HW1.out, ← HPQ.out]
  refine HPT.out.mono ?_
  rintro e W2 ⟨rfl, hW2⟩
  have hb12 : Below W1.heap.size W1 W2 := by rw [hW2]; exact (((Below.refl _ _).alloc (Nat.le_refl _) _).alloc (by simp) _).alloc (by simp; omega) _
  have hkb : Lrow W2 W1.heap.size 73 [.pointer (some ⟨k, 0, none⟩)] := by rw [hW2]; exact ((Lrow.new W1 _ _).alloc _).alloc _
  have hlb : Lrow W2 (W1.heap.size + 1) 125 [.pointer (some ⟨p, 0, none⟩)] := by
    rw [hW2]
    have := Lrow.new (W1.alloc (.cells #[.pointer (some ⟨k, 0, none⟩)] 73)) 125 [.pointer (some ⟨p, 0, none⟩)]
    rw [World.size_alloc] at this
    exact this.alloc _
  have hob : Lrow W2 (W1.heap.size + 1 + 1) 3 [.int .i64 o] := by
    rw [hW2]
    have := Lrow.new ((W1.alloc (.cells #[.pointer (some ⟨k, 0, none⟩)] 73)).alloc (.cells #[.pointer (some ⟨p, 0, none⟩)] 125)) 3 [.int .i64 o]
    rw [World.size_alloc, World.size_alloc] at this
    exact this
  obtain ⟨kb, hkbe⟩ : ∃ x, x = W1.heap.size := ⟨_, rfl⟩
  obtain ⟨lb, hlbe⟩ : ∃ x, x = W1.heap.size + 1 := ⟨_, rfl⟩
  obtain ⟨ob, hobe⟩ : ∃ x, x = W1.heap.size + 1 + 1 := ⟨_, rfl⟩
  rw [← hobe, ← hlbe, ← hkbe]
  rw [← hkbe] at hkb
  rw [← hlbe] at hlb
  rw [← hobe] at hob
  have HP2 : Hid (PutX W2 k p o ob kb lb (fun _ => .slice none 0 0) (fun _ => [])) := ⟨HR1.out.call hb12, hob, hkb, hlb, fun _ _ => World.ownsRow_nil _ _ _ _, fun i j _ _ _ b e => by simp [Value.ownBlock] at e⟩
  have HB2 := Lib.hid (HB1.out.trans (hb12.mono HB1.out.size))
  have hk2 := HK.out.call HB2.out
  have hc1 := hk2.c1
  have HBL : Hid (Calls Tryz.prog 76 #[.pointer (some ⟨a, 0, none⟩)] W2 (Lists (bk F) W2)) := by
    obtain ⟨L, g1, g2⟩ := hk2.bud
    exact blocks_any g1 g2 (by rw [hk2.len]; exact hk2.hi)
  clear hkb hlb hob hkbe hlbe hobe hb12 hW2 hk2
  go_wp2_with fail
  refine Calls.mono HBL.out ?_
  rintro e W3 ⟨A, c, rfl, hA, hb3⟩
  have HA := Lib.hid hA
  have HP3 := Lib.hid (HP2.out.call hb3)
  have HB3 := Lib.hid (HB2.out.trans (hb3.mono HB2.out.size))
  clear hA hb3 hc1
  obtain ⟨m, hm⟩ : ∃ m, m = (bk F).length := ⟨_, rfl⟩
  have hm10 : m ≤ 1024 := by rw [hm]; have := bk_len F; have := HK.out.len; have := HK.out.hi; omega
  rw [← hm]
  have HM := Lib.hid hm
  clear hm
  go_wp2_with fail
  go_loopw [23] (fun i wr => ∃ (j : Nat) (V : Nat → Value), j ≤ m ∧ i = .int .i64 j ∧ Beside p W3 (fun _ => .slice none 0 0) wr V ∧ PutX wr k p o ob kb lb V (putL S o (fun _ => []) (pcsL S ((bk F).take j)))) (fun i _ => m - (intOf i).toNat)
  case atStart => exact ⟨0, _, Nat.zero_le _, rfl, Beside.of _ (Below.refl _ _), HP3.out⟩
  case round =>
    obtain ⟨j, V, hj, rfl, hbs, hPX⟩ := hrel
    by_cases hlt : j < m
    · have hjl : j < (bk F).length := by rw [← HM.out]; exact hlt
      have hrow := HA.out.beside HP3.out.top hbs (fun _ _ => rfl)
      obtain ⟨gA, hAe, hgA, d0, d1⟩ := blk_cell hrow hjl
      subst hAe
      have hmx : Mx F ((bk F)[j]).1 ((bk F)[j]).2 := bk_mem.1 (show (((bk F)[j]).1, ((bk F)[j]).2) ∈ bk F from List.getElem_mem hjl)
      have hle := mx_lt hmx
      have htk : (bk F).take (j + 1) = (bk F).take j ++ [(bk F)[j]] := by rw [List.take_succ_eq_append_getElem hjl]
      have hpl := pcsL_take_len (F := F) S j
      have hpl2 := pcsL_take_len (F := F) S (j + 1)
      rw [htk, pcsL_snoc] at hpl2
      obtain ⟨M0, hM0⟩ : ∃ M0, M0 = putL S o (fun _ => []) (pcsL S ((bk F).take j)) := ⟨_, rfl⟩
      have HN : Hid (putL S o (fun _ => []) (pcsL S ((bk F).take (j + 1))) = putL S o M0 (pcs1 S (bk F)[j])) := by
        show _ = _
        rw [htk, pcsL_snoc, putL_append, hM0]
      have HL : Hid (∀ (l : List (Nat × Nat)) (i : Nat), l.length ≤ (pcs1 S (bk F)[j]).length → (putL S o M0 l i).length ≤ 1024) := fun l i hl => by
        have h1 := putL_len S o i (pcsL S ((bk F).take j) ++ l)
        rw [putL_append, ← hM0, List.length_append] at h1
        rw [List.length_append] at hpl2
        have := HK.out.len
        have := HK.out.hi
        omega
      rw [← hM0] at hPX
      obtain ⟨x, hx⟩ : ∃ x, x = (bk F)[j] := ⟨_, rfl⟩
      rw [← hx] at d0 d1 hmx hle HN HL
      obtain ⟨f, kk⟩ := x
      dsimp only at d0 d1 hmx hle
      have hk8 : kk ≤ 8 := hmx.1
      have hal : f % 2 ^ kk = 0 := hmx.2.1.1
      rw [HK.out.len] at hle
      have hn10 := HK.out.hi
      have hKr := HK.out.call (HB3.out.trans (hbs.below (B := w.heap.size) (fun _ _ b e => by simp [Value.ownBlock] at e) (by rw [HPQ.out]; exact Nat.le_refl _) HB3.out.size))
      obtain ⟨W4, hW4⟩ : ∃ W, W = wr.alloc (.cells #[.int .i64 f, .int .i64 kk] 92) := ⟨_, rfl⟩
      obtain ⟨q, hq⟩ : ∃ q, q = wr.heap.size := ⟨_, rfl⟩
      have hb4 : Below wr.heap.size wr W4 := by rw [hW4]; exact (Below.refl _ _).alloc (Nat.le_refl _) _
      have hq4 : Lrow W4 q 92 [.int .i64 f, .int .i64 kk] := by rw [hW4, hq]; exact Lrow.new wr _ _
      have hU := under_any (hKr.call hb4) hk8 hle
      have HVQ : Hid (∀ i, i ≤ 3 → (V i).ownBlock ≠ some q) := fun i hi e => by
        have := ((hPX.own i hi).lt q e).2
        rw [hq] at this
        omega
      have HKr := Lib.hid hKr
      have HB4 := Lib.hid hb4
      have HQ4 := Lib.hid hq4
      have HU := Lib.hid hU
      have HBS := Lib.hid hbs
      have HPX := Lib.hid hPX
      have HW4 := Lib.hid hW4
      have HQE := Lib.hid hq
      have HLE := Lib.hid hle
      have HAL := Lib.hid hal
      clear hKr hb4 hq4 hU hbs hPX hW4 hq hmx hle htk hpl hpl2 hM0 hx hrow hal hn10
      go_wp2_with fail
      rw [← HW4.out, ← HQE.out]
      have e0 : W4.cell? ⟨q, 0, none⟩ = some (.int .i64 f) := HQ4.out.cell 0
      have e1 : W4.cell? ⟨q, 1, none⟩ = some (.int .i64 kk) := HQ4.out.cell 1
      clear d0 d1 hgA
      go_wp2_with fail
      refine HU.out.mono ?_
      rintro e W5 ⟨rfl, hb5⟩
      have hq5 := HQ4.out.call hb5
      have hb45 := HB4.out.trans (hb5.mono HB4.out.size)
      have HK5 := Lib.hid (HKr.out.call hb45)
      have HP5 := Lib.hid (HPX.out.call hb45)
      have HBS5 := Lib.hid (HBS.out.trans (Beside.of V hb45))
      have HQ5 := Lib.hid hq5
      have c0 : W5.cell? ⟨q, 0, none⟩ = some (.int .i64 f) := hq5.cell 0
      have c1 : W5.cell? ⟨q, 1, none⟩ = some (.int .i64 kk) := hq5.cell 1
      clear hq5 hb45 hb5 HU HKr HPX HBS HB4 e0 e1
      have hHC : Calls Tryz.prog 112 #[.slice (some ⟨g, f / 8, none⟩) (upr f kk - f / 8) (S.length - f / 8), .int .i64 3] W5 fun e w' => e = .returned (.bool (iso S (f, kk))) ∧ W5 = w' := by
        have hu := upr_le HLE.out
        have hc := HK5.out.cnt
        rw [iso_any]
        exact contains_any (f := fun j => ((S.getD (f / 8 + j) 0 : Nat) : Int)) (fun j hj => HK5.out.at_ (by omega)) (by have := HK5.out.hi; omega) 3
      have hup : 3 < kk → upr f kk - f / 8 = 2 ^ (kk - 3) := upr_even HAL.out
      have HUP := Lib.hid hup
      obtain ⟨cnt, hcnt⟩ : ∃ c, c = upr f kk - f / 8 := ⟨_, rfl⟩
      rw [← hcnt] at hHC HUP ⊢
      have hcn : cnt ≤ 128 := by rw [hcnt]; have := upr_le HLE.out; have := HK5.out.hi; omega
      have HC := Lib.hid hHC
      clear hHC hup hcnt
      have hkk3 : ((kk : Int) ≤ 3) ∨ ¬ ((kk : Int) ≤ 3) := by omega
      have HP1 : Hid (Calls Tryz.prog 129 #[.agg #[.int .i64 f, .int .i64 kk], .pointer (some ⟨ob, 0, none⟩), .pointer (some ⟨kb, 0, none⟩), .pointer (some ⟨lb, 0, none⟩)] W5 (Put k p o ob kb lb V (putM S o M0 (f, kk)) W5)) :=
        putIt_any HP5.out HK5.out (fun i _ => HL.out [] i (Nat.zero_le _)) (by have := HLE.out; have := two_pos kk; omega)
      by_cases hone : kk ≤ 3 ∨ iso S (f, kk) = false
      · have HN1 : Hid (putL S o (fun _ => []) (pcsL S ((bk F).take (j + 1))) = putM S o M0 (f, kk)) := by
          show _ = _
          rw [HN.out, pcs1_one hone]; rfl
        rcases hkk3 with h3 | h3
        · clear hone
          go_wp2_with (first | (go_at_call 112; refine HC.out.mono ?_; rintro e w' ⟨rfl, rfl⟩))
          refine Calls.mono HP1.out ?_
          rintro e W6 ⟨rfl, V6, hbs6, hp6⟩
          have HBS6 := Lib.hid (HBS5.out.trans hbs6)
          have HP6 := Lib.hid hp6
          clear hbs6 hp6 c0 c1
          go_wp2_with fail
          go_roundw
          case rel => exact ⟨j + 1, V6, by omega, by go_num, HBS6.out, by rw [HN1.out]; exact HP6.out⟩
          case measure => simp [intOf]; omega
        · have hiso : iso S (f, kk) = false := by
            rcases hone with h | h
            · omega
            · exact h
          rw [hiso] at HC
          clear hone hiso
          go_wp2_with (first | (go_at_call 112; refine HC.out.mono ?_; rintro e w' ⟨rfl, rfl⟩))
          refine Calls.mono HP1.out ?_
          rintro e W6 ⟨rfl, V6, hbs6, hp6⟩
          have HBS6 := Lib.hid (HBS5.out.trans hbs6)
          have HP6 := Lib.hid hp6
          clear hbs6 hp6 c0 c1
          go_wp2_with fail
          go_roundw
          case rel => exact ⟨j + 1, V6, by omega, by go_num, HBS6.out, by rw [HN1.out]; exact HP6.out⟩
          case measure => simp [intOf]; omega
      · have h3 : ¬ ((kk : Int) ≤ 3) := by omega
        have hiso : iso S (f, kk) = true := by
          cases hh : iso S (f, kk) with
          | true => rfl
          | false => exact absurd (Or.inr hh) hone
        have hk4 : 3 < kk := by omega
        have hce := HUP.out hk4
        have HPC : Hid (pcs1 S (f, kk) = (List.range cnt).map fun i => (f + i * 8, 3)) := by
          show _ = _
          rw [pcs1_many hk4 hiso, hce]
        have hcf : f + cnt * 8 ≤ n := by
          have h1 := HLE.out
          obtain ⟨d, rfl⟩ : ∃ d, kk = d + 3 := ⟨kk - 3, by omega⟩
          rw [Nat.add_sub_cancel] at hce
          rw [Nat.pow_add] at h1
          omega
        have hn10 := HK5.out.hi
        rw [hiso] at HC
        clear hone hiso hk4 hce hkk3 HP1
        go_wp2_with (first | (go_at_call 112; refine HC.out.mono ?_; rintro e w' ⟨rfl, rfl⟩))
        clear c0 c1
        go_loopw [43] (fun t wi => ∃ (i : Nat) (V' : Nat → Value), i ≤ cnt ∧ t = .int .i64 i ∧ Beside p W5 V wi V' ∧ PutX wi k p o ob kb lb V' (putL S o M0 ((List.range i).map fun i => (f + i * 8, 3)))) (fun t _ => cnt - (intOf t).toNat)
        case atStart => exact ⟨0, V, Nat.zero_le _, rfl, Beside.of V (Below.refl _ _), HP5.out⟩
        case round =>
          obtain ⟨i, V', hi, rfl, hbi, hPi⟩ := hrel
          by_cases hlti : i < cnt
          · have hqi := hbi.row HQ5.out (HQ5.out.apart HP5.out.top (by decide)) HVQ.out
            have b0 : wr.cell? ⟨q, 0, none⟩ = some (.int .i64 f) := hqi.cell 0
            obtain ⟨y, hy⟩ : ∃ y, y = f + i * 8 := ⟨_, rfl⟩
            have s1 : IntKind.i64.wrap ((i : Int) * 8) = i * 8 := IntWalk.i64_in _ (by omega)
            have s2 : IntKind.i64.wrap ((f : Int) + i * 8) = y := by rw [IntWalk.i64_in _ (by omega)]; omega
            have hKi := HK.out.call (HB3.out.trans ((HBS5.out.trans hbi).below (B := w.heap.size) (fun _ _ b e => by simp [Value.ownBlock] at e) (by rw [HPQ.out]; exact Nat.le_refl _) HB3.out.size))
            have hsn : (List.range (i + 1)).map (fun i => (f + i * 8, 3)) = (List.range i).map (fun i => (f + i * 8, 3)) ++ [(y, 3)] := by rw [List.range_succ, List.map_append, hy]; rfl
            have HSN : Hid (putL S o M0 ((List.range (i + 1)).map fun i => (f + i * 8, 3)) = putM S o (putL S o M0 ((List.range i).map fun i => (f + i * 8, 3))) (y, 3)) := by
              show _ = _
              rw [hsn, putL_snoc]
            have HP1 : Hid (Calls Tryz.prog 129 #[.agg #[.int .i64 y, .int .i64 (3 : Nat)], .pointer (some ⟨ob, 0, none⟩), .pointer (some ⟨kb, 0, none⟩), .pointer (some ⟨lb, 0, none⟩)] wr (Put k p o ob kb lb V' (putM S o (putL S o M0 ((List.range i).map fun i => (f + i * 8, 3))) (y, 3)) wr)) :=
              putIt_any hPi hKi (fun d _ => HL.out _ d (by rw [HPC.out]; simp; omega)) (by omega)
            have HBI := Lib.hid hbi
            clear hqi hKi hPi hbi hsn hy
            go_wp2_with fail
            refine Calls.mono HP1.out ?_
            rintro e W6 ⟨rfl, V6, hbs6, hp6⟩
            have HBS6 := Lib.hid (HBI.out.trans hbs6)
            have HP6 := Lib.hid hp6
            clear hbs6 hp6 b0 s1 s2
            go_wp2_with fail
            go_roundw
            case rel => exact ⟨i + 1, V6, by omega, by go_num, HBS6.out, by rw [HSN.out]; exact HP6.out⟩
            case measure => simp [intOf]; omega
          · obtain rfl : i = cnt := by omega
            have HBI := Lib.hid (HBS5.out.trans hbi)
            have HPI := Lib.hid hPi
            clear hbi hPi
            go_wp2_with fail
            go_roundw
            case rel => exact ⟨j + 1, V', by omega, by go_num, HBI.out, by rw [HN.out, HPC.out]; exact HPI.out⟩
            case measure => simp [intOf]; omega
    · obtain rfl : j = m := by omega
      have HBI : Hid (Below w.heap.size w wr) := HB3.out.trans (hbs.below (B := w.heap.size) (fun _ _ b e => by simp [Value.ownBlock] at e) (by rw [HPQ.out]; exact Nat.le_refl _) HB3.out.size)
      rw [HM.out, List.take_length, pcsL_all] at hPX
      have HPI := Lib.hid hPX
      clear hbs hPX
      go_wp2_with fail
      go_ret
      refine ⟨?_, HBI.out, ob, kb, lb, V, by rw [← HPQ.out]; exact HPI.out⟩
      show Ending.returned (.pointer (some ⟨p, 0, none⟩)) = _
      rw [HPQ.out]
end
end Go.Proofs.YtklhcgekagimkaaGreat
