/- The program's reservations as they lie in memory; its small functions; looks. -/
import Derived.Test.YtfalmjibpkkjaaaB1
import Derived.Test.YtfalmjibpkkjaaaA1
import Derived.Test.YtfalmjibpkkjaaaGa
import Derived.BigRegion
import Derived.BigQuiet
import Derived.Deep.QuietTactic
namespace Go.Proofs.Ytfalmjibpkkjaaa
open Go.RowKit
theorem zeroK (w : World) : (zeroValue 70).run Try.prog w = .ok (.pointer none) w := by kernel_rfl
def TK : MapTK Try.prog (Int × Int) where
  k := 66
  t := 71
  e := 70
  z := .pointer none
  kv := kvK
  kl := klK
  fit a := FitM a.1 ∧ FitM a.2
  law := law14
  ht := by kernel_rfl
  hz := zeroK
  key := key14
  back := back14
  inj a b h := by
    unfold kvK at h
    injection h with h
    simp at h
    exact Prod.ext h.1 h.2
def TO : MapTy Try.prog := ⟨3, 72, 70, .pointer none, by kernel_rfl, by kernel_rfl, zeroK⟩
def keptC (x : Rv) : List Value := [.int .i64 x.s, .int .i64 x.p, .int .i64 x.f, .int .u8 (x.n : Int), .int .u64 x.t]
/-- Where it lies: its struct, both maps, each reservation's struct. -/
structure ObT where
  s : Nat
  bk : Nat
  bo : Nat
  a : Int → Int → Nat
def sayK (L : List Rv) (a : Int → Int → Nat) : Int × Int → Option Value := fun k => (L.find? fun x => decide (x.s = k.1 ∧ x.p = k.2)).map fun x => .pointer (some ⟨a x.s x.p, 0, none⟩)
def sayF (L : List Rv) (a : Int → Int → Nat) : Int → Option Value := fun f => (L.find? fun x => decide (x.f = f)).map fun x => .pointer (some ⟨a x.s x.p, 0, none⟩)
structure ObAt (B : Nat) (w : World) (T : ObT) (S : Rs) : Prop where
  top : Lrow w T.s 74 [.map (some T.bk), .map (some T.bo), .int .u64 S.T]
  kept : TK.At w T.bk S.T.toNat (sayK S.L T.a)
  own : TO.At w T.bo S.T.toNat (sayF S.L T.a)
  row : ∀ x ∈ S.L, Lrow w (T.a x.s x.p) 69 (keptC x)
  inj : ∀ x ∈ S.L, ∀ y ∈ S.L, T.a x.s x.p = T.a y.s y.p → x.s = y.s ∧ x.p = y.p
  apb : T.bk ≠ T.bo
  lo : B ≤ T.s ∧ B ≤ T.bk ∧ B ≤ T.bo
  loq : ∀ x ∈ S.L, B ≤ T.a x.s x.p
def MineO (T : ObT) (L : List Rv) (k : Nat) : Prop := k = T.s ∨ k = T.bk ∨ k = T.bo ∨ ∃ x, x ∈ L ∧ k = T.a x.s x.p
/-- What a call that changes the object does: its blocks X become X'. -/
def DidO (Ob : Nat → World → Nat → (Nat → Prop) → Rs → Prop) (B : Nat) (w : World) (s : Nat) (X : Nat → Prop) (S : Rs) (w' : World) : Prop :=
  ∃ X', Ob B w' s X' S ∧ Foot X w w' ∧ ∀ k, X' k → X k ∨ w.heap.size ≤ k
def theOb (B : Nat) (w : World) (s : Nat) (X : Nat → Prop) (S : Rs) : Prop := ∃ T, T.s = s ∧ X = MineO T S.L ∧ ObAt B w T S
def DidM (B : Nat) (w : World) (T : ObT) (S S' : Rs) (w' : World) : Prop :=
  ∃ T', T'.s = T.s ∧ ObAt B w' T' S' ∧ Foot (MineO T S.L) w w' ∧ ∀ k, MineO T' S'.L k → MineO T S.L k ∨ w.heap.size ≤ k
section
variable {w w' : World} {B : Nat} {T : ObT} {S S' : Rs} {n : Nat} {s p f : Int}
theorem ObAt.lt (h : ObAt B w T S) : ∀ k, MineO T S.L k → k < w.heap.size := by
  rintro k (rfl | rfl | rfl | ⟨x, hx, rfl⟩)
  · exact h.top.lt
  · exact h.kept.lt
  · exact h.own.lt
  · exact (h.row x hx).lt
theorem ObAt.low (h : ObAt B w T S) : ∀ k, MineO T S.L k → B ≤ k := by
  rintro k (rfl | rfl | rfl | ⟨x, hx, rfl⟩)
  · exact h.lo.1
  · exact h.lo.2.1
  · exact h.lo.2.2
  · exact h.loq x hx
theorem ObAt.lw (h : ObAt B w T S) : B ≤ w.heap.size := by have := h.lo.1; have := h.top.lt; omega
theorem ObAt.keep (h : ObAt B w T S) (hk : ∀ k, MineO T S.L k → w'.heap[k]? = w.heap[k]?) : ObAt B w' T S :=
  ⟨(hk _ (Or.inl rfl)).trans h.top, h.kept.heap (hk _ (Or.inr (Or.inl rfl))), h.own.heap (hk _ (Or.inr (Or.inr (Or.inl rfl)))),
   fun x e => (hk _ (Or.inr (Or.inr (Or.inr ⟨x, e, rfl⟩)))).trans (h.row x e), h.inj, h.apb, h.lo, h.loq⟩
theorem ObAt.call (h : ObAt B w T S) (hb : Below w.heap.size w w') : ObAt B w' T S := h.keep fun k hk => hb.block k (h.lt k hk)
theorem ObAt.drewN (h : ObAt B w T S) (k : Nat) : ObAt B (w.drewN k) T S := h.keep fun _ _ => rfl
theorem ObAt.did (h : ObAt B w T S) (hb : Below w.heap.size w w') : DidM B w T S S w' := ⟨T, rfl, h.call hb, Foot.of_below hb, fun _ e => Or.inl e⟩
theorem DidM.pre {W : World} (h : Below W.heap.size W w) (d : DidM B w T S S' w') : DidM B W T S S' w' := by
  obtain ⟨T', d0, d1, d2, d3⟩ := d
  exact ⟨T', d0, d1, (Foot.of_below (X := MineO T S.L) h).trans d2 (fun _ e _ => e), fun k e => (d3 k e).imp id fun e => Nat.le_trans h.size e⟩
theorem DidM.post (d : DidM B w T S S' w') {w'' : World} (h : Below w'.heap.size w' w'') : DidM B w T S S' w'' := by
  obtain ⟨T', d0, d1, d2, d3⟩ := d
  exact ⟨T', d0, d1.call h, d2.trans (Foot.of_below (X := MineO T S.L) h) (fun _ e _ => e), d3⟩
theorem DidM.dn (d : DidM B w T S S' w') (n : Nat) : DidM B w T S S' (w'.drewN n) := d.post (below_dN (Below.refl _ _) n)
theorem DidM.is (d : DidM B w T S S' w') : DidO theOb B w T.s (MineO T S.L) S' w' := by
  obtain ⟨T', d0, d1, d2, d3⟩ := d
  exact ⟨MineO T' S'.L, ⟨T', d0, rfl, d1⟩, d2, d3⟩
theorem ObAt.c0 (h : ObAt B w T S) : w.cell? ⟨T.s, 0, none⟩ = some (.map (some T.bk)) := h.top.cell 0
theorem ObAt.c1 (h : ObAt B w T S) : w.cell? ⟨T.s, 1, none⟩ = some (.map (some T.bo)) := h.top.cell 1
theorem ObAt.c2 (h : ObAt B w T S) : w.cell? ⟨T.s, 2, none⟩ = some (.int .u64 S.T) := h.top.cell 2
theorem sayK_at (L : List Rv) (a : Int → Int → Nat) (s p : Int) : sayK L a (s, pd p) = (atP L s p).map fun x => .pointer (some ⟨a x.s x.p, 0, none⟩) := rfl
theorem sayF_at (L : List Rv) (a : Int → Int → Nat) (f : Int) : sayF L a (pd f) = (atF L f).map fun x => .pointer (some ⟨a x.s x.p, 0, none⟩) := rfl
theorem pd_fits (hp : Fits p) : FitM (pd p) := by unfold Fits at hp; unfold FitM pd; omega
/-- The looks. -/
theorem ObAt.look (h : ObAt B w T S) (hs : Fits s) (hp : Fits p) {x : Rv} (e : atP S.L s p = some x) : (Instr.lookup 71 (.map (some T.bk)) (.agg #[.int .i64 s, .int .i64 (pd p)]) true).run Try.prog w = .ok (.tuple #[.pointer (some ⟨T.a x.s x.p, 0, none⟩), .bool true]) w := by
  have := h.kept.look (f := (s, pd p)) ⟨hs, pd_fits hp⟩ true
  rw [sayK_at, e] at this
  exact this
theorem ObAt.look1 (h : ObAt B w T S) (hs : Fits s) (hp : Fits p) {x : Rv} (e : atP S.L s p = some x) : (Instr.lookup 71 (.map (some T.bk)) (.agg #[.int .i64 s, .int .i64 (pd p)]) false).run Try.prog w = .ok (.pointer (some ⟨T.a x.s x.p, 0, none⟩)) w := by
  have := h.kept.look (f := (s, pd p)) ⟨hs, pd_fits hp⟩ false
  rw [sayK_at, e] at this
  exact this
theorem ObAt.lookN (h : ObAt B w T S) (hs : Fits s) (hp : Fits p) (e : atP S.L s p = none) (c : Bool) : (Instr.lookup 71 (.map (some T.bk)) (.agg #[.int .i64 s, .int .i64 (pd p)]) c).run Try.prog w = .ok (if c then .tuple #[.pointer none, .bool false] else .pointer none) w := by
  have := h.kept.look (f := (s, pd p)) ⟨hs, pd_fits hp⟩ c
  rw [sayK_at, e] at this
  exact this
theorem ObAt.lookF (h : ObAt B w T S) (hf : Fits f) {x : Rv} (e : atF S.L f = some x) (c : Bool) : (Instr.lookup 72 (.map (some T.bo)) (.int .i64 (pd f)) c).run Try.prog w = .ok (if c then .tuple #[.pointer (some ⟨T.a x.s x.p, 0, none⟩), .bool true] else .pointer (some ⟨T.a x.s x.p, 0, none⟩)) w := by
  have := h.own.look (f := pd f) (pd_fits hf) c
  rw [sayF_at, e] at this
  exact this
theorem ObAt.lookG (h : ObAt B w T S) (hf : Fits f) (e : atF S.L f = none) (c : Bool) : (Instr.lookup 72 (.map (some T.bo)) (.int .i64 (pd f)) c).run Try.prog w = .ok (if c then .tuple #[.pointer none, .bool false] else .pointer none) w := by
  have := h.own.look (f := pd f) (pd_fits hf) c
  rw [sayF_at, e] at this
  exact this
end
/-! Small functions. -/
theorem isPage_r (p : Int) (w : World) : Calls Try.prog 28 #[.int .i64 p] w fun e w' => e = .returned (.bool (decide (0 ≤ p ∧ p ≤ 4095))) ∧ w = w' := by
  by_cases h : 0 ≤ p
  · go_enter Try.func28, Try.ntmps28
    go_wp2
    go_ret
    exact ⟨ret_bool (by rw [decide_eq_decide]; omega), rfl⟩
  · go_enter Try.func28, Try.ntmps28
    go_wp2
    go_ret
    exact ⟨ret_bool (by simp; omega), rfl⟩
theorem isFirst_r (f : Int) (w : World) : Calls Try.prog 29 #[.int .i64 f] w fun e w' => e = .returned (.bool (decide (0 ≤ f ∧ f ≤ 1016))) ∧ w = w' := by
  by_cases h : 0 ≤ f
  · go_enter Try.func29, Try.ntmps29
    go_wp2
    go_ret
    exact ⟨ret_bool (by rw [decide_eq_decide]; omega), rfl⟩
  · go_enter Try.func29, Try.ntmps29
    go_wp2
    go_ret
    exact ⟨ret_bool (by simp; omega), rfl⟩
theorem dn3 (p : Int) : dnI p 3 = pd p := rfl
theorem ev3 (p : Int) : evB p 3 = decide (p % 8 = 0) := by unfold evB; rw [show ordB 3 = true by decide, Bool.true_and]; rfl
theorem down_r {p : Int} (hp : Fits p) (w : World) : Calls Try.prog 40 #[.int .i64 p, .int .i64 3] w fun e w' => e = .returned (.int .i64 (pd p)) ∧ w = w' := by
  have := down_any (o := 3) p hp.1 hp.2 w
  rw [dn3] at this
  exact this
theorem even_r {p : Int} (hp : Fits p) (w : World) : Calls Try.prog 30 #[.int .i64 p, .int .i64 3] w fun e w' => e = .returned (.bool (decide (p % 8 = 0))) ∧ w = w' := by
  have := even_any (o := 3) p hp.1 hp.2 w
  rw [ev3] at this
  exact this
theorem place_r {p : Int} (hp : Fits p) (w : World) : Calls Try.prog 33 #[.int .i64 p] w fun e w' => e = .returned (.int .i64 (jd p : Nat)) ∧ w = w' := by
  have hd := fun w => down_r hp w
  have e8 : IntKind.i64.wrap (p - pd p) = (jd p : Nat) := by have := jd_is p; rw [← this.2]; exact IntWalk.i64_in _ (by have := jd_lt p; omega)
  generalize pd p = d at *
  generalize jd p = j at *
  clear hp
  go_enter Try.func33, Try.ntmps33
  go_wp2_with (go_at_call 40; (with_reducible refine (hd _).mono ?_); rintro e w1 ⟨rfl, rfl⟩)
  go_ret
  exact ⟨rfl, rfl⟩
end Go.Proofs.Ytfalmjibpkkjaaa
