/- Both in one state; a call of both. -/
import Derived.Test.YtekfkglielmfaaaTgR
namespace Go.Proofs.Ytekfkglielmfaaa
open Go.RowKit
/-- Both over one list. -/
def StT (B : Nat) (w : World) (t x : Nat) (L : List (Nat × Nat)) : Prop := PrT B w t L ∧ (∃ v, RtT B w x v L) ∧ B ≤ t ∧ B ≤ x
section
variable {w w' w1 w2 W : World} {B t x : Nat} {v : Value} {L L' : List (Nat × Nat)}
theorem RtT.foot {X : Nat → Prop} (h : RtT B w x v L) (hf : Foot X w w') (hx : ¬ X x) (hn : ∀ k, X k → ∀ vs, ¬ Lrow w k 31 vs) : RtT B w' x v L :=
  h.keep (hf.keep x h.1.lt hx) fun k e => by
    obtain ⟨vs, r, _⟩ := h.2.1.block e
    exact hf.keep k r.lt fun c => hn k c vs r
theorem not_of {ty ty' : TypeId} {k : Nat} {vs : List Value} (h : Lrow w k ty vs) (hne : ty ≠ ty') : ∀ vs, ¬ Lrow w k ty' vs := fun _ r => h.apart r hne rfl
theorem PrT.row (h : PrT B w t L) : ∃ o, Lrow w t 66 [.pointer o] := by obtain ⟨o, T, h, -⟩ := h; exact ⟨o, h⟩
/-- A call of the program: the reference's stays. -/
theorem RtT.prog (h : RtT B w x v L) (hp : PrT B w t L') (hf : Foot (fun k => k = t) w w') : RtT B w' x v L := by
  obtain ⟨o, r⟩ := hp.row
  exact h.foot hf (fun e => h.1.apart r (by decide) e) (fun k e => by subst e; exact not_of r (by decide))
/-- A call of the reference: the program's stays. -/
theorem PrT.ref (h : PrT B w t L) (hx : RtT B w x v L') (hf : Foot (fun k => k = x) w w') : PrT B w' t L := by
  obtain ⟨o, r⟩ := h.row
  exact h.foot hf (fun e => r.apart hx.1 (by decide) e) (fun k e => by subst e; exact not_of hx.1 (by decide))
theorem StT.call (h : StT B w t x L) (hb : Below w.heap.size w w') : StT B w' t x L := by
  obtain ⟨h1, ⟨v, h2⟩, h3⟩ := h
  exact ⟨h1.call hb, ⟨v, h2.call hb⟩, h3⟩
theorem StT.ok (h : StT B w t x L) : OkS L := h.1.ok
theorem foot_two (h1 : Foot (fun k => k = t) w w1) (h2 : Foot (fun k => k = x) w1 w2) : Foot (fun k => k = t ∨ k = x) w w2 :=
  (h1.mono fun _ e => Or.inl e).trans h2 fun _ e _ => Or.inr e
/-- What a call of both leaves. -/
def DnT (B : Nat) (t x : Nat) (L : List (Nat × Nat)) (w w' : World) : Prop := ∃ L', L'.length ≤ L.length + 1 ∧ StT B w' t x L' ∧ Foot (fun k => k = t ∨ k = x) w w'
theorem DnT.same (h : StT B w t x L) (hb : Below w.heap.size w w') : DnT B t x L w w' := ⟨L, Nat.le_succ _, h.call hb, Foot.of_below hb⟩
theorem DnT.first (hb : Below w.heap.size w w1) (h : DnT B t x L w1 w') : DnT B t x L w w' := by
  obtain ⟨L', h1, h2, h3⟩ := h
  exact ⟨L', h1, h2, (Foot.of_below (X := fun k => k = t ∨ k = x) hb).trans h3 fun _ e _ => e⟩
theorem StT.two (h : StT B w t x L) (hp : PrT B w1 t L') (hf1 : Foot (fun k => k = t) w w1) {v' : Value} (hr : RtT B w2 x v' L') (hx : RtT B w1 x v L) (hf2 : Foot (fun k => k = x) w1 w2) (hl : L'.length ≤ L.length + 1) : DnT B t x L w w2 :=
  ⟨L', hl, ⟨hp.ref hx hf2, ⟨v', hr⟩, h.2.2⟩, foot_two hf1 hf2⟩
theorem foot_cell {X : Nat → Prop} {g i : Nat} {z : Value} (hf : Foot X w w') (h : w.cell? ⟨g, i, none⟩ = some z) (hx : ¬ X g) : w'.cell? ⟨g, i, none⟩ = some z := by
  have hlt : g < w.heap.size := by
    apply Classical.byContradiction
    intro hc
    have : w.heap[g]? = none := Array.getElem?_eq_none (by omega)
    simp [World.cell?, this] at h
  exact (World.cell?_of_block (a := ⟨g, i, none⟩) (hf.keep g hlt hx)).trans h
theorem keep_ft (hf : Foot (fun k => k = t) w w') {q : Nat} {a b : Value} (h : w.cell? ⟨q, 1, none⟩ = some a ∧ w.cell? ⟨q, 2, none⟩ = some b) (hq : ¬ q = t) : w'.cell? ⟨q, 1, none⟩ = some a ∧ w'.cell? ⟨q, 2, none⟩ = some b :=
  ⟨foot_cell hf h.1 hq, foot_cell hf h.2 hq⟩
set_option maxHeartbeats 4000000 in
set_option maxRecDepth 100000 in
theorem do_put0 (h : StT B w t x L) (hl : L.length ≤ 999) (a : Ac) : Calls Try.prog 28 #[.pointer (some ⟨t, 0, none⟩), .pointer (some ⟨x, 0, none⟩), .agg #[.int .i64 0, .int .i64 a.f, .int .i64 a.t, .int .i64 a.n]] w fun e w' => e = .returned (.bool true) ∧ DnT B t x L w w' := by
  obtain ⟨W0, hW0⟩ : ∃ W0, W0 = w.alloc (.cells #[.int .i64 0, .int .i64 a.f, .int .i64 a.t, .int .i64 a.n] 54) := ⟨_, rfl⟩
  obtain ⟨q, hq⟩ : ∃ q, q = w.heap.size := ⟨_, rfl⟩
  have b0 : Below w.heap.size w W0 := by rw [hW0]; exact below_new _ _
  have rs : Lrow W0 q 54 [.int .i64 0, .int .i64 a.f, .int .i64 a.t, .int .i64 a.n] := by rw [hW0, hq]; exact Lrow.new w _ _
  have h0 := h.call b0
  have htq : t < w.heap.size := h.1.lt
  obtain ⟨v, hv⟩ := h.2.1
  have hxq : x < w.heap.size := hv.1.lt
  have hqt : ¬ q = t := by omega
  have hqx : ¬ q = x := by omega
  clear hv
  obtain ⟨v, hv⟩ := h0.2.1
  have HW := Lib.hid (And.intro hW0 hq)
  have HB := Lib.hid b0
  have HS := Lib.hid h0
  have HL := Lib.hid (And.intro htq hxq)
  obtain ⟨ak, af, at_, an⟩ := a
  dsimp only at *
  have c_1 := put_p (w := W0.drew) (h0.1.call (below_dN (Below.refl _ _) 1)) af at_
  have hvd := hv.call (below_dN (Below.refl _ _) 1)
  have hpd := h0.1.call (below_dN (Below.refl _ _) 1)
  have hok := h0.ok
  have HLEN : Hid ((ptS L af at_).length ≤ L.length + 1) := (hok.put af at_).2
  obtain ⟨E, hE⟩ : ∃ E, E = ptE L af at_ := ⟨_, rfl⟩
  rw [← hE] at c_1
  have c_2 : ∀ W v, RtT B W x v L → Calls Try.prog 42 #[.pointer (some ⟨x, 0, none⟩), .int .i64 af, .int .i64 at_] W fun e w' => e = .returned (.int .i64 E) ∧ DidT B x v (ptS L af at_) W w' := fun W v hr => by rw [hE]; exact rput hr (by omega) af at_
  have y0 := rs.cell 0
  have hs : W0.cell? ⟨q, 1, none⟩ = some (.int .i64 af) ∧ W0.cell? ⟨q, 2, none⟩ = some (.int .i64 at_) := ⟨rs.cell 1, rs.cell 2⟩
  clear hW0 hq b0 rs h0 htq hxq h hl hE hok
  go_enter Try.func28, Try.ntmps28
  go_upto_region 1 with (fail)
  rw [← HW.out.1, ← HW.out.2]
  go_upto_region 5 with (fail)
  go_region_held3 (fun v => v.cell? ⟨q, 1, none⟩ = some (.int .i64 af) ∧ v.cell? ⟨q, 2, none⟩ = some (.int .i64 at_))
    (first | exact hs | exact hs1 | exact hs2)
    (first | (go_at_call 23; (with_reducible refine c_1.mono ?_); rintro e w1 ⟨rfl, hp1, hf1⟩; have hs1 := keep_ft hf1 hs hqt; have hv1 := hvd.prog hpd hf1) | (go_at_call 42; (with_reducible refine (c_2 _ _ hv1).mono ?_); rintro e w2 ⟨rfl, v2, hr2, hf2, -⟩; have hs2 := keep_ft hf2 hs1 hqx) | fail)
  all_goals
    go_wp2_with fail
    go_ret
    exact ⟨rfl, DnT.first HB.out (DnT.first (below_dN (Below.refl _ _) 1) (StT.two (HS.out.call (below_dN (Below.refl _ _) 1)) hp1 hf1 hr2 hv1 hf2 HLEN.out))⟩
set_option maxHeartbeats 4000000 in
set_option maxRecDepth 100000 in
theorem do_put1 (h : StT B w t x L) (hl : L.length ≤ 999) (a : Ac) : Calls Try.prog 28 #[.pointer (some ⟨t, 0, none⟩), .pointer (some ⟨x, 0, none⟩), .agg #[.int .i64 1, .int .i64 a.f, .int .i64 a.t, .int .i64 a.n]] w fun e w' => e = .returned (.bool true) ∧ DnT B t x L w w' := by
  obtain ⟨W0, hW0⟩ : ∃ W0, W0 = w.alloc (.cells #[.int .i64 1, .int .i64 a.f, .int .i64 a.t, .int .i64 a.n] 54) := ⟨_, rfl⟩
  obtain ⟨q, hq⟩ : ∃ q, q = w.heap.size := ⟨_, rfl⟩
  have b0 : Below w.heap.size w W0 := by rw [hW0]; exact below_new _ _
  have rs : Lrow W0 q 54 [.int .i64 1, .int .i64 a.f, .int .i64 a.t, .int .i64 a.n] := by rw [hW0, hq]; exact Lrow.new w _ _
  have h0 := h.call b0
  have htq : t < w.heap.size := h.1.lt
  obtain ⟨v, hv⟩ := h.2.1
  have hxq : x < w.heap.size := hv.1.lt
  have hqt : ¬ q = t := by omega
  have hqx : ¬ q = x := by omega
  clear hv
  obtain ⟨v, hv⟩ := h0.2.1
  have HW := Lib.hid (And.intro hW0 hq)
  have HB := Lib.hid b0
  have HS := Lib.hid h0
  have HL := Lib.hid (And.intro htq hxq)
  obtain ⟨ak, af, at_, an⟩ := a
  dsimp only at *
  have c_1 := put_p (w := W0.drew) (h0.1.call (below_dN (Below.refl _ _) 1)) af at_
  have hvd := hv.call (below_dN (Below.refl _ _) 1)
  have hpd := h0.1.call (below_dN (Below.refl _ _) 1)
  have hok := h0.ok
  have HLEN : Hid ((ptS L af at_).length ≤ L.length + 1) := (hok.put af at_).2
  obtain ⟨E, hE⟩ : ∃ E, E = ptE L af at_ := ⟨_, rfl⟩
  rw [← hE] at c_1
  have c_2 : ∀ W v, RtT B W x v L → Calls Try.prog 42 #[.pointer (some ⟨x, 0, none⟩), .int .i64 af, .int .i64 at_] W fun e w' => e = .returned (.int .i64 E) ∧ DidT B x v (ptS L af at_) W w' := fun W v hr => by rw [hE]; exact rput hr (by omega) af at_
  have y0 := rs.cell 0
  have hs : W0.cell? ⟨q, 1, none⟩ = some (.int .i64 af) ∧ W0.cell? ⟨q, 2, none⟩ = some (.int .i64 at_) := ⟨rs.cell 1, rs.cell 2⟩
  clear hW0 hq b0 rs h0 htq hxq h hl hE hok
  go_enter Try.func28, Try.ntmps28
  go_upto_region 1 with (fail)
  rw [← HW.out.1, ← HW.out.2]
  go_upto_region 5 with (fail)
  go_region_held3 (fun v => v.cell? ⟨q, 1, none⟩ = some (.int .i64 af) ∧ v.cell? ⟨q, 2, none⟩ = some (.int .i64 at_))
    (first | exact hs | exact hs1 | exact hs2)
    (first | (go_at_call 23; (with_reducible refine c_1.mono ?_); rintro e w1 ⟨rfl, hp1, hf1⟩; have hs1 := keep_ft hf1 hs hqt; have hv1 := hvd.prog hpd hf1) | (go_at_call 42; (with_reducible refine (c_2 _ _ hv1).mono ?_); rintro e w2 ⟨rfl, v2, hr2, hf2, -⟩; have hs2 := keep_ft hf2 hs1 hqx) | fail)
  all_goals
    go_wp2_with fail
    go_ret
    exact ⟨rfl, DnT.first HB.out (DnT.first (below_dN (Below.refl _ _) 1) (StT.two (HS.out.call (below_dN (Below.refl _ _) 1)) hp1 hf1 hr2 hv1 hf2 HLEN.out))⟩
set_option maxHeartbeats 4000000 in
set_option maxRecDepth 100000 in
theorem do_put2 (h : StT B w t x L) (hl : L.length ≤ 999) (a : Ac) : Calls Try.prog 28 #[.pointer (some ⟨t, 0, none⟩), .pointer (some ⟨x, 0, none⟩), .agg #[.int .i64 2, .int .i64 a.f, .int .i64 a.t, .int .i64 a.n]] w fun e w' => e = .returned (.bool true) ∧ DnT B t x L w w' := by
  obtain ⟨W0, hW0⟩ : ∃ W0, W0 = w.alloc (.cells #[.int .i64 2, .int .i64 a.f, .int .i64 a.t, .int .i64 a.n] 54) := ⟨_, rfl⟩
  obtain ⟨q, hq⟩ : ∃ q, q = w.heap.size := ⟨_, rfl⟩
  have b0 : Below w.heap.size w W0 := by rw [hW0]; exact below_new _ _
  have rs : Lrow W0 q 54 [.int .i64 2, .int .i64 a.f, .int .i64 a.t, .int .i64 a.n] := by rw [hW0, hq]; exact Lrow.new w _ _
  have h0 := h.call b0
  have htq : t < w.heap.size := h.1.lt
  obtain ⟨v, hv⟩ := h.2.1
  have hxq : x < w.heap.size := hv.1.lt
  have hqt : ¬ q = t := by omega
  have hqx : ¬ q = x := by omega
  clear hv
  obtain ⟨v, hv⟩ := h0.2.1
  have HW := Lib.hid (And.intro hW0 hq)
  have HB := Lib.hid b0
  have HS := Lib.hid h0
  have HL := Lib.hid (And.intro htq hxq)
  obtain ⟨ak, af, at_, an⟩ := a
  dsimp only at *
  have c_1 := put_p (w := W0.drew) (h0.1.call (below_dN (Below.refl _ _) 1)) af at_
  have hvd := hv.call (below_dN (Below.refl _ _) 1)
  have hpd := h0.1.call (below_dN (Below.refl _ _) 1)
  have hok := h0.ok
  have HLEN : Hid ((ptS L af at_).length ≤ L.length + 1) := (hok.put af at_).2
  obtain ⟨E, hE⟩ : ∃ E, E = ptE L af at_ := ⟨_, rfl⟩
  rw [← hE] at c_1
  have c_2 : ∀ W v, RtT B W x v L → Calls Try.prog 42 #[.pointer (some ⟨x, 0, none⟩), .int .i64 af, .int .i64 at_] W fun e w' => e = .returned (.int .i64 E) ∧ DidT B x v (ptS L af at_) W w' := fun W v hr => by rw [hE]; exact rput hr (by omega) af at_
  have y0 := rs.cell 0
  have hs : W0.cell? ⟨q, 1, none⟩ = some (.int .i64 af) ∧ W0.cell? ⟨q, 2, none⟩ = some (.int .i64 at_) := ⟨rs.cell 1, rs.cell 2⟩
  clear hW0 hq b0 rs h0 htq hxq h hl hE hok
  go_enter Try.func28, Try.ntmps28
  go_upto_region 1 with (fail)
  rw [← HW.out.1, ← HW.out.2]
  go_upto_region 5 with (fail)
  go_region_held3 (fun v => v.cell? ⟨q, 1, none⟩ = some (.int .i64 af) ∧ v.cell? ⟨q, 2, none⟩ = some (.int .i64 at_))
    (first | exact hs | exact hs1 | exact hs2)
    (first | (go_at_call 23; (with_reducible refine c_1.mono ?_); rintro e w1 ⟨rfl, hp1, hf1⟩; have hs1 := keep_ft hf1 hs hqt; have hv1 := hvd.prog hpd hf1) | (go_at_call 42; (with_reducible refine (c_2 _ _ hv1).mono ?_); rintro e w2 ⟨rfl, v2, hr2, hf2, -⟩; have hs2 := keep_ft hf2 hs1 hqx) | fail)
  all_goals
    go_wp2_with fail
    go_ret
    exact ⟨rfl, DnT.first HB.out (DnT.first (below_dN (Below.refl _ _) 1) (StT.two (HS.out.call (below_dN (Below.refl _ _) 1)) hp1 hf1 hr2 hv1 hf2 HLEN.out))⟩
set_option maxHeartbeats 4000000 in
set_option maxRecDepth 100000 in
theorem do_del (h : StT B w t x L) (hl : L.length ≤ 999) (a : Ac) : Calls Try.prog 28 #[.pointer (some ⟨t, 0, none⟩), .pointer (some ⟨x, 0, none⟩), .agg #[.int .i64 3, .int .i64 a.f, .int .i64 a.t, .int .i64 a.n]] w fun e w' => e = .returned (.bool true) ∧ DnT B t x L w w' := by
  obtain ⟨W0, hW0⟩ : ∃ W0, W0 = w.alloc (.cells #[.int .i64 3, .int .i64 a.f, .int .i64 a.t, .int .i64 a.n] 54) := ⟨_, rfl⟩
  obtain ⟨q, hq⟩ : ∃ q, q = w.heap.size := ⟨_, rfl⟩
  have b0 : Below w.heap.size w W0 := by rw [hW0]; exact below_new _ _
  have rs : Lrow W0 q 54 [.int .i64 3, .int .i64 a.f, .int .i64 a.t, .int .i64 a.n] := by rw [hW0, hq]; exact Lrow.new w _ _
  have h0 := h.call b0
  have htq : t < w.heap.size := h.1.lt
  obtain ⟨v, hv⟩ := h.2.1
  have hxq : x < w.heap.size := hv.1.lt
  have hqt : ¬ q = t := by omega
  have hqx : ¬ q = x := by omega
  clear hv
  obtain ⟨v, hv⟩ := h0.2.1
  have HW := Lib.hid (And.intro hW0 hq)
  have HB := Lib.hid b0
  have HS := Lib.hid h0
  have HL := Lib.hid (And.intro htq hxq)
  obtain ⟨ak, af, at_, an⟩ := a
  dsimp only at *
  have c_1 := del_p (w := W0.drew) (h0.1.call (below_dN (Below.refl _ _) 1)) af at_
  have hvd := hv.call (below_dN (Below.refl _ _) 1)
  have hpd := h0.1.call (below_dN (Below.refl _ _) 1)
  have hok := h0.ok
  have HLEN : Hid ((dlS L af at_).length ≤ L.length + 1) := Nat.le_succ_of_le (hok.del af at_).2
  obtain ⟨E, hE⟩ : ∃ E, E = dlE L af at_ := ⟨_, rfl⟩
  rw [← hE] at c_1
  have c_2 : ∀ W v, RtT B W x v L → Calls Try.prog 43 #[.pointer (some ⟨x, 0, none⟩), .int .i64 af, .int .i64 at_] W fun e w' => e = .returned (.int .i64 E) ∧ DidT B x v (dlS L af at_) W w' := fun W v hr => by rw [hE]; exact rdel hr (by omega) af at_
  have y0 := rs.cell 0
  have hs : W0.cell? ⟨q, 1, none⟩ = some (.int .i64 af) ∧ W0.cell? ⟨q, 2, none⟩ = some (.int .i64 at_) := ⟨rs.cell 1, rs.cell 2⟩
  clear hW0 hq b0 rs h0 htq hxq h hl hE hok
  go_enter Try.func28, Try.ntmps28
  go_upto_region 1 with (fail)
  rw [← HW.out.1, ← HW.out.2]
  go_upto_region 7 with (fail)
  go_region_held3 (fun v => v.cell? ⟨q, 1, none⟩ = some (.int .i64 af) ∧ v.cell? ⟨q, 2, none⟩ = some (.int .i64 at_))
    (first | exact hs | exact hs1 | exact hs2)
    (first | (go_at_call 26; (with_reducible refine c_1.mono ?_); rintro e w1 ⟨rfl, hp1, hf1⟩; have hs1 := keep_ft hf1 hs hqt; have hv1 := hvd.prog hpd hf1) | (go_at_call 43; (with_reducible refine (c_2 _ _ hv1).mono ?_); rintro e w2 ⟨rfl, v2, hr2, hf2, -⟩; have hs2 := keep_ft hf2 hs1 hqx) | fail)
  all_goals
    go_wp2_with fail
    go_ret
    exact ⟨rfl, DnT.first HB.out (DnT.first (below_dN (Below.refl _ _) 1) (StT.two (HS.out.call (below_dN (Below.refl _ _) 1)) hp1 hf1 hr2 hv1 hf2 HLEN.out))⟩
set_option maxHeartbeats 4000000 in
set_option maxRecDepth 100000 in
theorem do_cut (h : StT B w t x L) (hl : L.length ≤ 999) (a : Ac) : Calls Try.prog 28 #[.pointer (some ⟨t, 0, none⟩), .pointer (some ⟨x, 0, none⟩), .agg #[.int .i64 4, .int .i64 a.f, .int .i64 a.t, .int .i64 a.n]] w fun e w' => e = .returned (.bool true) ∧ DnT B t x L w w' := by
  obtain ⟨W0, hW0⟩ : ∃ W0, W0 = w.alloc (.cells #[.int .i64 4, .int .i64 a.f, .int .i64 a.t, .int .i64 a.n] 54) := ⟨_, rfl⟩
  obtain ⟨q, hq⟩ : ∃ q, q = w.heap.size := ⟨_, rfl⟩
  have b0 : Below w.heap.size w W0 := by rw [hW0]; exact below_new _ _
  have rs : Lrow W0 q 54 [.int .i64 4, .int .i64 a.f, .int .i64 a.t, .int .i64 a.n] := by rw [hW0, hq]; exact Lrow.new w _ _
  have h0 := h.call b0
  have htq : t < w.heap.size := h.1.lt
  obtain ⟨v, hv⟩ := h.2.1
  have hxq : x < w.heap.size := hv.1.lt
  have hqt : ¬ q = t := by omega
  have hqx : ¬ q = x := by omega
  clear hv
  obtain ⟨v, hv⟩ := h0.2.1
  have HW := Lib.hid (And.intro hW0 hq)
  have HB := Lib.hid b0
  have HS := Lib.hid h0
  have HL := Lib.hid (And.intro htq hxq)
  obtain ⟨ak, af, at_, an⟩ := a
  dsimp only at *
  have c_1 := cut_p (w := W0.drew) (h0.1.call (below_dN (Below.refl _ _) 1)) af at_
  have hvd := hv.call (below_dN (Below.refl _ _) 1)
  have hpd := h0.1.call (below_dN (Below.refl _ _) 1)
  have hok := h0.ok
  have HLEN : Hid ((ctS L af at_).length ≤ L.length + 1) := (hok.cut af at_).2
  obtain ⟨E, hE⟩ : ∃ E, E = wrS af at_ := ⟨_, rfl⟩
  rw [← hE] at c_1
  have c_2 : ∀ W v, RtT B W x v L → Calls Try.prog 44 #[.pointer (some ⟨x, 0, none⟩), .int .i64 af, .int .i64 at_] W fun e w' => e = .returned (.int .i64 E) ∧ DidT B x v (ctS L af at_) W w' := fun W v hr => by rw [hE]; exact rcut hr (by omega) af at_
  have y0 := rs.cell 0
  have hs : W0.cell? ⟨q, 1, none⟩ = some (.int .i64 af) ∧ W0.cell? ⟨q, 2, none⟩ = some (.int .i64 at_) := ⟨rs.cell 1, rs.cell 2⟩
  clear hW0 hq b0 rs h0 htq hxq h hl hE hok
  go_enter Try.func28, Try.ntmps28
  go_upto_region 1 with (fail)
  rw [← HW.out.1, ← HW.out.2]
  go_upto_region 9 with (fail)
  go_region_held3 (fun v => v.cell? ⟨q, 1, none⟩ = some (.int .i64 af) ∧ v.cell? ⟨q, 2, none⟩ = some (.int .i64 at_))
    (first | exact hs | exact hs1 | exact hs2)
    (first | (go_at_call 27; (with_reducible refine c_1.mono ?_); rintro e w1 ⟨rfl, hp1, hf1⟩; have hs1 := keep_ft hf1 hs hqt; have hv1 := hvd.prog hpd hf1) | (go_at_call 44; (with_reducible refine (c_2 _ _ hv1).mono ?_); rintro e w2 ⟨rfl, v2, hr2, hf2, -⟩; have hs2 := keep_ft hf2 hs1 hqx) | fail)
  all_goals
    go_wp2_with fail
    go_ret
    exact ⟨rfl, DnT.first HB.out (DnT.first (below_dN (Below.refl _ _) 1) (StT.two (HS.out.call (below_dN (Below.refl _ _) 1)) hp1 hf1 hr2 hv1 hf2 HLEN.out))⟩
end
end Go.Proofs.Ytekfkglielmfaaa
