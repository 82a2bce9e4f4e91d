/- Frames: both sides over one list; what must come at any rate. -/
import Derived.Test.YtnbphpkcpipbkaaFrI
import Derived.BigRegion
namespace Go.Proofs.Ytnbphpkcpipbkaa
open Go.RowKit
/-- Both over one list, apart. -/
def St (B : Nat) (w : World) (s x : Nat) (I : List Int) : Prop := ∃ g v, Fx B w s g I ∧ Rx B w x v I ∧ v.ownBlock ≠ some g
section
variable {w w' : World} {B s g x : Nat} {v : Value} {I I' : List Int}
theorem St.call (h : St B w s x I) (hb : Below w.heap.size w w') : St B w' s x I := by
  obtain ⟨g, v, h1, h2, h3⟩ := h
  exact ⟨g, v, h1.call hb, h2.call hb, h3⟩
theorem St.lw (h : St B w s x I) : B ≤ w.heap.size := by
  obtain ⟨g, v, h1, h2, h3⟩ := h
  exact h1.lw
theorem half {K : List Int} (h1 : Fx B w s g I) (h2 : Rx B w x v K) (h3 : v.ownBlock ≠ some g) (d : Turned B w s g I I' w') : Fx B w' s g I' ∧ Rx B w' x v K ∧ Below B w w' := by
  refine ⟨d.2.1, h2.keep (d.2.2.keep x h2.1.lt ?_) fun k hk => ?_, d.2.2.below h1.lw fun b hb => (h1.mine b hb).1⟩
  · rintro (e | e)
    · exact h2.1.apart h1.top (by decide) e
    · exact h2.1.apart h1.row (by decide) e
  · obtain ⟨vs, r, _⟩ := h2.2.1.block hk
    refine d.2.2.keep k r.lt ?_
    rintro (e | e)
    · exact r.apart h1.top (by decide) e
    · exact h3 (by rw [hk, e])
theorem whole (h1 : Fx B w s g I') (h2 : Rx B w x v I) (h3 : v.ownBlock ≠ some g) (d : RTurned B w x v I' w') : St B w' s x I' ∧ Below B w w' := by
  obtain ⟨v', r, f, t⟩ := d
  refine ⟨⟨g, v', h1.keep fun k hk => f.keep k (h1.mine k hk).2 ?_, r, ?_⟩, f.below h1.lw fun b hb => by rw [hb]; exact h2.2.2⟩
  · intro e
    rcases hk with d | d
    · exact h2.1.apart h1.top (by decide) (e.symm.trans d)
    · exact h2.1.apart h1.row (by decide) (e.symm.trans d)
  · rcases t with rfl | ⟨k, e, hk⟩
    · exact h3
    · intro d
      rw [e] at d
      injection d with d
      have := h1.row.lt
      omega
theorem St.new {w0 w1 w2 : World} {n : Int} (h1 : Fx w0.heap.size w1 s g (newF n)) (hb1 : Below w0.heap.size w0 w1) (h2 : Rx w1.heap.size w2 x v (newF n)) (hk : ∃ k, v.ownBlock = some k ∧ w1.heap.size ≤ k) (hb2 : Below w1.heap.size w1 w2) : St w0.heap.size w2 s x (newF n) := by
  refine ⟨g, v, h1.call hb2, ⟨h2.1, h2.2.1.base hb1.size, Nat.le_trans hb1.size h2.2.2⟩, fun e => ?_⟩
  obtain ⟨k, hk, hl⟩ := hk
  rw [hk] at e
  injection e with e
  have := h1.row.lt
  omega
end
/-- What some turns make. -/
def mdF (I : List Int) (M : List Ac) : List Int := M.foldl (fun I l => tuL I l.f l.n l.a l.t) I
theorem mdF_next (I : List Int) (M : List Ac) {j : Nat} (hj : j < M.length) : mdF I (M.take (j + 1)) = tuL (mdF I (M.take j)) M[j].f M[j].n M[j].a M[j].t := by
  unfold mdF
  rw [List.take_add_one, List.getElem?_eq_getElem hj, List.foldl_append]
  rfl
theorem mdF_ok : ∀ (M : List Ac) {I : List Int}, OkF I → OkF (mdF I M)
  | [], _, h => h
  | l :: r, _, h => mdF_ok r (h.turn l.f l.n l.a l.t)
theorem mdF_len : ∀ (M : List Ac) (I : List Int), (mdF I M).length = I.length
  | [], _ => rfl
  | l :: r, I => (mdF_len r _).trans (turn_len I l.f l.n l.a l.t)
def mdE (n : Int) (M : List Ac) : List Int := mdF (newF n) (M.take 60)
theorem mdE_ok {n : Int} (h : nwF n = true) (M : List Ac) : OkF (mdE n M) := mdF_ok _ (newF_ok h)
theorem mdE_len (n : Int) (M : List Ac) : (mdE n M).length = n.toNat := by unfold mdE; rw [mdF_len]; unfold newF; rw [List.length_replicate]
/-! What must come at any rate. -/
def aw1 : List Int := [0, 0, 2, 2, 0, 0, 0, 0]
def aw2 : List Int := [0, 0, 2, 4, 0, 0, 0, 0]
theorem aw_ok0 : nwF 8 = true := by decide
theorem awT1 : tuE (newF 8) 2 2 0 2 = 0 ∧ tuL (newF 8) 2 2 0 2 = aw1 := by decide
theorem awT2 : tuE aw1 3 1 2 4 = 0 ∧ tuL aw1 3 1 2 4 = aw2 := by decide
theorem awT3 : tuE aw2 3 1 4 1 = 5 ∧ tuL aw2 3 1 4 1 = aw2 := by decide
theorem awC : aw2.count 2 = 1 := by decide
theorem awX : NxIs aw2 0 4 3 := Or.inr ⟨3, rfl, by omega, rfl, fun i _ h => by
  match i, h with
  | 0, _ => decide
  | 1, _ => decide
  | 2, _ => decide⟩
set_option maxHeartbeats 4000000 in
set_option maxRecDepth 100000 in
theorem awake_any (w : World) : Calls Try.prog 10 #[] w fun e w' => e = .returned (.bool true) ∧ Below w.heap.size w w' := by
  have hnew := new_f aw_ok0 w
  go_enter Try.func10, Try.ntmps10
  go_wp2_with fail
  refine hnew.mono ?_
  rintro e w1 ⟨s, g, rfl, h1, hb1⟩
  have ok0 := newF_ok aw_ok0
  have ht := turn_f h1 ok0 2 2 0 2
  rw [awT1.1, awT1.2] at ht
  have ok1 := ok0.turn 2 2 0 2
  rw [awT1.2] at ok1
  have H1 := Lib.hid (And.intro h1 (And.intro hb1 ok1))
  clear hnew h1 hb1 ok0 ok1
  go_wp2_with fail
  refine ht.mono ?_
  rintro e w2 ⟨rfl, -, h2, f2⟩
  have HB2 : Hid (Below w.heap.size w w2) := H1.out.2.1.trans (f2.below H1.out.2.1.size fun b hb => (H1.out.1.mine b hb).1)
  have ok1 := H1.out.2.2
  have ht := turn_f h2 ok1 3 1 2 4
  rw [awT2.1, awT2.2] at ht
  have ok2 := ok1.turn 3 1 2 4
  rw [awT2.2] at ok2
  have H2 := Lib.hid (And.intro h2 (And.intro ok1 ok2))
  clear h2 f2 ok1 ok2 H1
  go_wp2_with fail
  refine ht.mono ?_
  rintro e w3 ⟨rfl, -, h3, f3⟩
  have HB3 : Hid (Below w.heap.size w w3) := HB2.out.trans (f3.below HB2.out.size fun b hb => (H2.out.1.mine b hb).1)
  have ok2 := H2.out.2.2
  have hc := count_f h3 ok2 2
  rw [awC] at hc
  have hn := next_f h3 (by decide) (f := 0) ⟨by omega, by omega⟩ awX
  have ht := turn_f h3 ok2 3 1 4 1
  rw [awT3.1, awT3.2] at ht
  have H3 := Lib.hid h3
  clear h3 f3 ok2 H2
  go_wp2_with fail
  refine hc.mono ?_
  rintro e w4 ⟨rfl, rfl⟩
  clear hc
  go_wp2_with fail
  refine hn.mono ?_
  rintro e w4 ⟨rfl, rfl⟩
  clear hn
  go_wp2_with fail
  refine ht.mono ?_
  rintro e w4 ⟨rfl, -, h4, f4⟩
  have HB4 : Hid (Below w.heap.size w w4) := HB3.out.trans (f4.below HB3.out.size fun b hb => (H3.out.mine b hb).1)
  clear ht h4 f4
  go_wp2_with fail
  go_ret
  exact ⟨rfl, HB4.out⟩
end Go.Proofs.Ytnbphpkcpipbkaa
