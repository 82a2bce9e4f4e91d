/- The contracts of has, put and drop. -/
import Derived.Test.YtklhcgekagimkaaGreatMg08
namespace Go.Proofs.YtklhcgekagimkaaGreat
variable {Xc : Nat → Prop}
open Go.RowKit

section
variable {w : World} {B a n : Nat} {L : Nat → List Nat} {p : Nat → Option Nat} {c : Nat → Nat}
theorem search_any (h : BudX Xc B w a n L p c) {k : Nat} (hk : k ≤ 8) (hu : Up (L k)) (hl : (L k).length ≤ 4096) (x : Int) :
    Calls Tryz.prog 142 #[.slice (slA (p k)) (L k).length (c k), .int .i64 x] w fun e w' => e = .returned (.tuple #[.int .i64 (cutX x (L k) : Nat), .bool (memX x (L k))]) ∧ ∃ q, w' = w.drewN q := by
  cases hp : p k with
  | none =>
    obtain ⟨h1, h2⟩ := h.nil k hk hp
    rw [h1, h2]
    exact (Tryz.slices_BinarySearch_int_empty none 0 x w).mono fun e w' ⟨he, hw⟩ => ⟨he, 0, hw⟩
  | some b =>
    obtain ⟨_, r, h2, h3, _, _⟩ := h.row k hk b hp
    rw [h3]
    exact search_row h2 hl hu x
theorem has_any (h : BudX Xc B w a n L p c) {k : Nat} (hk : k ≤ 8) (hu : Up (L k)) (hl : (L k).length ≤ 4096) (x : Int) :
    Calls Tryz.prog 120 #[.pointer (some ⟨a, 0, none⟩), .agg #[.int .i64 x, .int .i64 k]] w fun e w' => e = .returned (.bool (memX x (L k))) ∧ Below w.heap.size w w' := by
  have hX := h.alloc (.cells #[.int .i64 x, .int .i64 k] 92)
  have hc := hX.field hk
  have k0 : (0 : Int) ≤ k := by omega
  have k9 : (k : Int) < 9 := by omega
  have hS := fun q => search_any (hX.drewN q) hk hu hl x
  generalize slA (p k) = A at hc hS
  generalize cutX x (L k) = i at hS
  generalize memX x (L k) = v at hS
  generalize (L k).length = m at hc hS
  generalize c k = cc at hc hS
  clear h hX hu hl
  go_enter Tryz.func120, Tryz.ntmps120
  go_wp2_with fail
  go_quiet ((go_at_call 142; exact Calls.quiet_of (hS _)))
  go_wp2
  go_ret
  exact ⟨rfl, below_dN ((Below.refl _ _).alloc (Nat.le_refl _) _) _⟩
theorem drop_any (h : BudX Xc B w a n L p c) {k x : Nat} (hk : k ≤ 8) (hu : Up (L k)) (hl : (L k).length ≤ 4096) (hx : x ∈ L k) :
    Calls Tryz.prog 122 #[.pointer (some ⟨a, 0, none⟩), .agg #[.int .i64 x, .int .i64 k]] w fun e w' => e = .returned (.tuple #[]) ∧ Turn Xc B w w' ∧ BudAt Xc B w' a n (upd L k (remL x (L k))) := by
  obtain ⟨b, hp⟩ : ∃ b, p k = some b := by
    cases hp : p k with
    | none => rw [(h.nil k hk hp).1] at hx; cases hx
    | some b => exact ⟨b, rfl⟩
  have hX := h.alloc (.cells #[.int .i64 x, .int .i64 k] 92)
  obtain ⟨hB, r, hrow, hcc, hc0, hcm⟩ := hX.row k hk b hp
  have hc := hX.field hk
  have k0 : (0 : Int) ≤ k := by omega
  have k9 : (k : Int) < 9 := by omega
  have hS := fun q => search_any (hX.drewN q) hk hu hl x
  rw [hp] at hc hS
  rw [cutX_nat] at hS
  have hi := cut_lt hu hx
  have i0 : (0 : Int) ≤ (cutI x (L k) : Nat) := by omega
  have i1 : ((cutI x (L k) : Nat) : Int) ≤ 4096 := by omega
  have iw : IntKind.i64.wrap ((cutI x (L k) : Nat) + 1) = (cutI x (L k) : Nat) + 1 := IntWalk.i64_in _ (by omega)
  have hD := fun W (hr : Lrow W b 3 (icells (ints (L k) r))) => delete_row hr (by omega) hu hx
  rw [← hcc] at hD
  generalize cutI x (L k) = i at hS i0 i1 iw hD
  generalize memX x (L k) = v at hS
  simp only [slA, Option.map_some] at hc hS
  have hbox : Lrow (w.alloc (.cells #[.int .i64 x, .int .i64 k] 92)) w.heap.size 92 [.int .i64 x, .int .i64 k] := Lrow.new w _ _
  have hT : Turn Xc B w (w.alloc (.cells #[.int .i64 x, .int .i64 k] 92)) := (Turn.refl B w).alloc (by have := h.lo; have := h.top.lt; omega) _
  have hwa : w.heap.size ≠ a := by have := h.top.lt; omega
  have HD := Lib.hid hD
  have HP := Lib.hid hp
  have HC := Lib.hid hcc
  have HI := Lib.hid iw
  have HX := Lib.hid hX
  have HW := Lib.hid hrow
  have HB := Lib.hid hB
  have HBX := Lib.hid hbox
  have HRL := Lib.hid (remL_len hu hx)
  clear h hX hu hl hD hp hcc iw hrow hB hbox
  go_enter Tryz.func122, Tryz.ntmps122
  go_wp2_with fail
  go_quiet (fail)
  go_wp2_with (go_at_call 142; refine (hS _).mono ?_; rintro e w2 ⟨rfl, q2, rfl⟩)
  clear hS
  have HX2 := Lib.hid (HX.out.drewN (nq + q2))
  have HW2 := Lib.hid (HW.out.drewN (nq + q2))
  have HB2 := Lib.hid (HBX.out.drewN (nq + q2))
  have hT2 := hT.drewN (nq + q2)
  have hs : ((w.alloc (.cells #[.int .i64 x, .int .i64 k] 92)).drewN (nq + q2)).drew.cell? ⟨w.heap.size, 1, none⟩ = some (.int .i64 k) := HB2.out.cell 1
  clear HX HW HBX hT hc
  generalize (w.alloc (.cells #[.int .i64 x, .int .i64 k] 92)).drewN (nq + q2) = W at HX2 HW2 HB2 hT2 hs ⊢
  have HX3 := Lib.hid (HX2.out.drewN 1)
  have HT3 := Lib.hid (hT2.drew)
  have hiw := HI.out
  clear HX2 hT2
  go_region_held3 (fun v => v.cell? ⟨w.heap.size, 1, none⟩ = some (.int .i64 k)) (first | exact hs | exact hb1.cell 1 | exact (hb1.far hwa _).cell 1)
    (first | (go_at_call 143; refine (HD.out _ (HW2.out.drewN 1)).mono ?_; rintro e w1 ⟨rfl, r1, g1⟩; have hb1 := (HB2.out.drewN 1).grown g1 (fun e => by injection e with e; exact (HB2.out.apart HW2.out (by decide)) e); have ht1 := HX3.out.top.grown g1 (fun e => by injection e with e; exact (HX3.out.top.apart HW2.out (by decide)) e); have hc1 := ht1.frozen (1 + k); have hc2 := (ht1.cell (1 + k)).trans ((HX3.out.top.cell (1 + k)).symm.trans (HX3.out.field hk)); have HT1 := Lib.hid ht1; clear ht1))
  go_wp2
  go_end0
  have ht := HX3.out.turned hk HB.out (Or.inl HP.out) r1 (cc := c k) (by have := HRL.out; have := HC.out; simp only [List.length_cons]; omega) hc0 hcm g1
  exact ⟨rfl, HT3.out.trans ht.1, ht.2⟩
theorem insert_any (h : BudX Xc B w a n L p c) {k x vb : Nat} (hk : k ≤ 8) (hl : (L k).length ≤ 4096) (hv : Lrow w vb 3 [.int .i64 x]) (hvb : ∀ b, p k = some b → vb ≠ b) :
    Calls Tryz.prog 144 #[.slice (slA (p k)) (L k).length (c k), .int .i64 (cutI x (L k) : Nat), .slice (some ⟨vb, 0, none⟩) 1 1] w (Inserted w (p k) x (L k)) := by
  cases hp : p k with
  | none =>
    obtain ⟨h1, h2⟩ := h.nil k hk hp
    rw [h1, h2]
    exact insert_nil hv
  | some b =>
    obtain ⟨_, r, h2, h3, h4, h5⟩ := h.row k hk b hp
    rw [h3] at h4 h5 ⊢
    exact insert_row h2 h5 h4 hl hv (hvb b hp)
theorem put_any (h : BudX Xc B w a n L p c) {k x : Nat} (hk : k ≤ 8) (hu : Up (L k)) (hl : (L k).length ≤ 4096) :
    Calls Tryz.prog 124 #[.pointer (some ⟨a, 0, none⟩), .agg #[.int .i64 x, .int .i64 k]] w fun e w' => e = .returned (.tuple #[]) ∧ Turn Xc B w w' ∧ BudAt Xc B w' a n (upd L k (insL x (L k))) := by
  have hX := h.alloc (.cells #[.int .i64 x, .int .i64 k] 92)
  have hc := hX.field hk
  have k0 : (0 : Int) ≤ k := by omega
  have k9 : (k : Int) < 9 := by omega
  have hS := fun q => search_any (hX.drewN q) hk hu hl x
  rw [cutX_nat] at hS
  have hbox : Lrow (w.alloc (.cells #[.int .i64 x, .int .i64 k] 92)) w.heap.size 92 [.int .i64 x, .int .i64 k] := Lrow.new w _ _
  have hlo : B ≤ w.heap.size := by have := h.lo; have := h.top.lt; omega
  have hT : Turn Xc B w (w.alloc (.cells #[.int .i64 x, .int .i64 k] 92)) := (Turn.refl B w).alloc hlo _
  have hwa : w.heap.size ≠ a := by have := h.top.lt; omega
  have hlast : ∀ W, BudX Xc B W a n L p c → Calls Tryz.prog 144 #[.slice (slA (p k)) (L k).length (c k), .int .i64 (cutI x (L k) : Nat), .slice (some ⟨W.heap.size, 0, none⟩) 1 1] (W.alloc (.cells #[.int .i64 x] 3)) (Inserted (W.alloc (.cells #[.int .i64 x] 3)) (p k) x (L k)) := fun W hW =>
    insert_any (hW.alloc _) hk hl (Lrow.new W _ _) (fun b hb => by
      obtain ⟨_, r, h2, _⟩ := hW.row k hk b hb
      have := h2.lt; omega)
  have HL := Lib.hid hlast
  have HX := Lib.hid hX
  have HBX := Lib.hid hbox
  generalize hA : slA (p k) = A at hc hS HL
  have HA := Lib.hid hA
  generalize cutI x (L k) = i at hS HL
  generalize memX x (L k) = v at hS
  generalize hm : (L k).length = m at hc hS HL
  have HM := Lib.hid hm
  generalize hcc : c k = cc at hc hS HL
  have HC := Lib.hid hcc
  clear h hX hu hl hlast hbox hA hm hcc
  go_enter Tryz.func124, Tryz.ntmps124
  go_wp2_with fail
  go_quiet (fail)
  go_wp2_with (go_at_call 142; refine (hS _).mono ?_; rintro e w2 ⟨rfl, q2, rfl⟩)
  clear hS
  have HX2 := Lib.hid (HX.out.drewN (nq + q2))
  have HB2 := Lib.hid (HBX.out.drewN (nq + q2))
  have hT2 := hT.drewN (nq + q2)
  have hs : ((w.alloc (.cells #[.int .i64 x, .int .i64 k] 92)).drewN (nq + q2)).drew.cell? ⟨w.heap.size, 0, none⟩ = some (.int .i64 x) ∧ ((w.alloc (.cells #[.int .i64 x, .int .i64 k] 92)).drewN (nq + q2)).drew.cell? ⟨w.heap.size, 1, none⟩ = some (.int .i64 k) := ⟨HB2.out.cell 0, HB2.out.cell 1⟩
  clear HX HBX hT hc
  generalize (w.alloc (.cells #[.int .i64 x, .int .i64 k] 92)).drewN (nq + q2) = W at HX2 HB2 hT2 hs ⊢
  have HX3 := Lib.hid (HX2.out.drewN 1)
  have HT3 := Lib.hid (hT2.drew)
  have hb0 := (HB2.out.drewN 1).alloc (.cells #[.int .i64 x] 3)
  have HX4 := Lib.hid (HX3.out.alloc (.cells #[.int .i64 x] 3))
  clear HX2 hT2
  go_region_held3 (fun v => v.cell? ⟨w.heap.size, 0, none⟩ = some (.int .i64 x) ∧ v.cell? ⟨w.heap.size, 1, none⟩ = some (.int .i64 k)) (first | exact hs | exact ⟨hb0.cell 0, hb0.cell 1⟩ | exact ⟨hb1.cell 0, hb1.cell 1⟩ | exact ⟨(hb1.far hwa _).cell 0, (hb1.far hwa _).cell 1⟩)
    (first | (go_at_call 144; refine (HL.out _ HX3.out).mono ?_; rintro e w1 ⟨b1, r1, rfl, hr1, hm1, g1, ho1⟩; have hb1 := hb0.grown g1 (fun e => by injection e with e; rcases ho1 with ho1 | ho1; (obtain ⟨_, r3, h3, _⟩ := HX4.out.row k hk b1 ho1; exact (hb0.apart h3 (by decide)) e); (have := hb0.lt; omega)); have ht1 := HX4.out.top.grown g1 (fun e => by injection e with e; rcases ho1 with ho1 | ho1; (obtain ⟨_, r3, h3, _⟩ := HX4.out.row k hk b1 ho1; exact (HX4.out.top.apart h3 (by decide)) e); (have := HX4.out.top.lt; omega)); have hc1 := ht1.frozen (1 + k); have hc2 := (ht1.cell (1 + k)).trans ((HX4.out.top.cell (1 + k)).symm.trans (HX4.out.field hk)); have HT1 := Lib.hid ht1; clear ht1))
  go_wp2
  go_end0
  have hB1 : B ≤ b1 := by
    rcases ho1 with g | g
    · exact (HX4.out.row k hk b1 g).1
    · have := HX4.out.lo; have := HX4.out.top.lt; omega
  have ht := HX4.out.turned hk hB1 ho1 hr1 rfl (by rw [insL_len]; omega) hm1 g1
  exact ⟨rfl, (HT3.out.alloc (by have := HX3.out.lo; have := HX3.out.top.lt; have e : W.drew.heap.size = (W.drewN 1).heap.size := rfl; omega) _).trans ht.1, ht.2⟩
end
end Go.Proofs.YtklhcgekagimkaaGreat
