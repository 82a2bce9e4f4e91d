/- What lies in memory of package rmap: a map of ints to whatever values, the object. -/
import Derived.Test.YtgpbbmcadifdhaaK0
import Derived.Test.YtgpbbmcadifdhaaProg
import Derived.Test.YtgpbbmcadifdhaaR0
namespace Go.Proofs.Ytgpbbmcadifdhaa
open Go.RowKit

/-! Items as cells. -/
def pcells : List It → List Value
  | [] => []
  | x :: r => .int .i64 x.1 :: .int .i64 x.2 :: pcells r
theorem pcells_length (L : List It) : (pcells L).length = L.length * 2 := by
  induction L with
  | nil => rfl
  | cons x r ih => simp only [pcells, List.length_cons, ih]; omega
theorem pcells_append (L M : List It) : pcells (L ++ M) = pcells L ++ pcells M := by
  induction L with
  | nil => rfl
  | cons x r ih => simp [pcells, ih]
theorem pcells_one (L : List It) : ∀ u ∈ pcells L, u.oneCell' = true := by
  induction L with
  | nil => intro u h; simp [pcells] at h
  | cons x r ih =>
    intro u h
    simp only [pcells, List.mem_cons] at h
    rcases h with rfl | rfl | h
    · rfl
    · rfl
    · exact ih u h
theorem pcells_take : ∀ (L : List It) (n : Nat), pcells (L.take n) = (pcells L).take (n * 2) := by
  intro L
  induction L with
  | nil => intro n; simp [pcells]
  | cons y r ih =>
    intro n
    match n with
    | 0 => simp [pcells]
    | n + 1 => simp only [List.take_succ_cons, pcells, ih, show (n + 1) * 2 = n * 2 + 1 + 1 by omega]

theorem pcells_drop : ∀ (L : List It) (n : Nat), pcells (L.drop n) = (pcells L).drop (n * 2) := by
  intro L
  induction L with
  | nil => intro n; simp [pcells]
  | cons y r ih =>
    intro n
    match n with
    | 0 => simp [pcells]
    | n + 1 => simp only [List.drop_succ_cons, pcells, ih, show (n + 1) * 2 = n * 2 + 1 + 1 by omega]
theorem pcells_get : ∀ (L : List It) (j : Nat) (h : j < L.length), (pcells L)[j * 2]? = some (.int .i64 (L[j]).1) ∧ (pcells L)[j * 2 + 1]? = some (.int .i64 (L[j]).2) := by
  intro L
  induction L with
  | nil => intro j h; simp at h
  | cons x r ih =>
    intro j h
    match j with
    | 0 => exact ⟨rfl, rfl⟩
    | j + 1 =>
      have := ih j (by simpa using h)
      simp only [pcells, show (j + 1) * 2 = j * 2 + 1 + 1 by omega, List.getElem?_cons_succ, List.getElem_cons_succ]
      exact this
/-! The map. -/
theorem keyLaw : Go.Maps.Keyed Try.prog 3 := Go.Maps.int_keyed (q := .i64) (by kernel_rfl)
theorem intT : Try.prog.underlying 3 = some (.int .i64) := by kernel_rfl
theorem mapT : Try.prog.underlying 49 = some (.map 3 36) := by kernel_rfl
theorem spots_slice : Try.prog.underlying 36 = some (.slice 27) := by kernel_rfl
theorem zeroT (w : World) : (zeroValue 36).run Try.prog w = .ok (.slice none 0 0) w := by kernel_rfl
theorem i64_wf {n : Int} (h : -9223372036854775808 ≤ n ∧ n ≤ 9223372036854775807) : (Lit.int .i64 n).wf = true := WalkArith.wf_i64 h

/-- How an element reads: as it is. -/
def heldE (v : Value) : Option (DataW Value × List MemPlace) := some (.held v, [])
def updV (M : Int → Option Value) (f : Int) (x : Option Value) : Int → Option Value := fun g => if g = f then x else M g
theorem updV_same (M : Int → Option Value) (f : Int) (x : Option Value) : updV M f x f = x := if_pos rfl
theorem updV_other (M : Int → Option Value) {f g : Int} (x : Option Value) (h : g ≠ f) : updV M f x g = M g := if_neg h
/-- The map in block b: at most n entries, those of M. -/
def MapV (w : World) (b n : Nat) (M : Int → Option Value) : Prop :=
  ∃ D : DataW Value, w.ownsMap Try.prog 3 heldE b n D ∧
    ∀ f, Fits f → Go.Maps.has D (.int .i64 f) = (M f).isSome ∧ ∀ v, M f = some v → D.atKey (.int .i64 f) (.held (.slice none 0 0)) = .held v
section
variable {w w' : World} {b n : Nat} {M : Int → Option Value}
theorem MapV.heap (h : MapV w b n M) (hk : w'.heap[b]? = w.heap[b]?) : MapV w' b n M := by
  obtain ⟨D, ⟨es, clock, hb, r⟩, h2⟩ := h
  exact ⟨D, ⟨es, clock, hk.trans hb, r⟩, h2⟩
theorem MapV.lt (h : MapV w b n M) : b < w.heap.size := by obtain ⟨D, h1, _⟩ := h; exact h1.lt
theorem MapV.apart (h : MapV w b n M) {g : Nat} {t : TypeId} {vs : List Value} (r : Lrow w g t vs) : g ≠ b := by
  obtain ⟨D, ⟨es, clock, hb, _⟩, _⟩ := h
  rintro rfl
  unfold Lrow at r
  rw [r] at hb
  cases hb
theorem MapV.new (w : World) : MapV (w.alloc (.map #[] 0)) w.heap.size 0 (fun _ => none) :=
  ⟨.map [], World.ownsMap_made _ _ _ _, fun _ _ => ⟨rfl, fun _ e => by cases e⟩⟩
theorem keyOf_int {f : Int} (hf : Fits f) : keyOf Try.prog 3 (.int .i64 f) = some (.int .i64 f) := Go.Maps.keyOf_int_mk intT (i64_wf hf)
/-- 'm[f]'. -/
theorem MapV.look (h : MapV w b n M) {f : Int} (hf : Fits f) : (Instr.lookup 49 (.map (some b)) (.int .i64 f) false).run Try.prog w = .ok ((M f).getD (.slice none 0 0)) w := by
  obtain ⟨D, ⟨es, clock, hb, F, _, rfl⟩, h3⟩ := h
  obtain ⟨g1, g2⟩ := h3 f hf
  rcases Go.Maps.fit_look false keyLaw mapT (zeroT w) hb F (keyOf_int hf) with ⟨hrun, _, hat⟩ | ⟨e0, y, _, _, hrun, hRv, hat, _⟩
  · rw [Go.Maps.has_false_of_atKey hat] at g1
    cases hm : M f with
    | none => exact hrun
    | some v => rw [hm] at g1; cases g1
  · rw [Go.Maps.has_true_of_atKey hat] at g1
    cases hm : M f with
    | none => rw [hm] at g1; cases g1
    | some v =>
      have e1 := g2 v hm
      rw [hat] at e1
      unfold heldE at hRv
      injection hRv with hRv
      rw [← hRv] at e1
      injection e1 with e1
      rw [← e1]
      exact hrun
theorem lit_ne {f g : Int} (h : g ≠ f) : (Lit.int .i64 g) ≠ (Lit.int .i64 f) := fun e => h (by injection e)

/-- 'm[f] = v'. -/
theorem MapV.put (h : MapV w b n M) (hn : n < 1000000) {f : Int} (v : Value) (hf : Fits f) : ∃ w', (Instr.mapUpdate 49 (.map (some b)) (.int .i64 f) v).run Try.prog w = .ok () w' ∧ w.grownBy w' (some b) ∧ MapV w' b (n + 1) (updV M f (some v)) := by
  obtain ⟨D, h1, h3⟩ := h
  obtain ⟨w', hr, g1, g2⟩ := h1.store keyLaw mapT (by unfold maxLen; omega) (keyOf_int hf) (show heldE v = some (.held v, []) from rfl)
  have hT := h1.tidy keyLaw
  have hK : WideAt.IsKeyLit (.int .i64 f) := trivial
  refine ⟨w', hr, g2.grown, D.put (.int .i64 f) (.held v), g1, fun g hg => ?_⟩
  by_cases e : g = f
  · subst e
    refine ⟨by rw [Go.Maps.has_put_same hT.isMap hK, updV_same]; rfl, fun u hu => ?_⟩
    rw [updV_same] at hu
    injection hu with hu
    rw [Go.Maps.atKey_put_same hT.isMap hK, hu]
  · rw [updV_other _ _ e]
    refine ⟨by rw [Go.Maps.has_put_other (lit_ne e)]; exact (h3 g hg).1, fun u hu => ?_⟩
    rw [Go.Maps.atKey_put_other (lit_ne e)]
    exact (h3 g hg).2 u hu
/-- 'delete(m, f)'. -/
theorem MapV.drop (h : MapV w b n M) {f : Int} (hf : Fits f) : ∃ w', (∀ ty, (Builtin.delete_ #[49, 3] ty #[.map (some b), .int .i64 f]).run Try.prog w = .ok (.tuple #[]) w') ∧ w.grownBy w' (some b) ∧ MapV w' b n (updV M f none) := by
  obtain ⟨D, h1, h3⟩ := h
  obtain ⟨w', hr, g1, g2⟩ := h1.drop keyLaw mapT (keyOf_int hf) 0
  refine ⟨w', fun ty => hr, g2.grown, D.del (.int .i64 f), g1, fun g hg => ?_⟩
  by_cases e : g = f
  · subst e
    refine ⟨by rw [Go.Maps.has_del_same, updV_same]; rfl, fun u hu => ?_⟩
    rw [updV_same] at hu
    cases hu
  · rw [updV_other _ _ e]
    refine ⟨by rw [Go.Maps.has_del_other (lit_ne e)]; exact (h3 g hg).1, fun u hu => ?_⟩
    rw [Go.Maps.atKey_del_other (lit_ne e)]
    exact (h3 g hg).2 u hu
/-- Its keys. -/
theorem keys_nodup {D : DataW Value} (h : w.ownsMap Try.prog 3 heldE b n D) : (intKeys D).Nodup ∧ (∀ f, f ∈ intKeys D → Fits f) ∧ (∀ f, f ∈ intKeys D ↔ Go.Maps.has D (.int .i64 f) = true) ∧ (intKeys D).length = Go.Maps.size D := by
  have hwf := intKeys_wf h intT
  obtain ⟨es, hD, hpw, _⟩ := h.entries keyLaw
  obtain ⟨es', hD', hko⟩ := h.keysOf
  obtain rfl : es = es' := by rw [hD] at hD'; simpa using hD'
  subst hD
  have hk : ∀ p ∈ es, ∃ x, p.1 = Lit.int .i64 x := fun p hp => by obtain ⟨v, hv⟩ := hko p hp; obtain ⟨x, _, hx, _⟩ := Go.Maps.keyOf_i64 intT hv; exact ⟨x, hx⟩
  refine ⟨?_, fun f hf => ?_, fun f => ?_, ?_⟩
  · show (es.map fun p => intOf p.1).Nodup
    refine List.pairwise_map.2 (hpw.imp_of_mem fun {p q} hp' hq' hne e => hne ?_)
    obtain ⟨a, ha⟩ := hk p hp'
    obtain ⟨b, hb⟩ := hk q hq'
    rw [ha, hb] at e ⊢
    exact congrArg _ e
  · have := hwf f hf
    unfold Fits
    simp [Lit.wf, IntKind.min, IntKind.max, IntKind.signed, IntKind.bits] at this
    omega
  · rw [Go.Maps.has_eq, List.any_eq_true]
    show f ∈ es.map (fun p => intOf p.1) ↔ _
    rw [List.mem_map]
    constructor
    · rintro ⟨p, hp', rfl⟩
      obtain ⟨a, ha⟩ := hk p hp'
      exact ⟨p, hp', by rw [ha]; simp [Lit.sameKey, intOf]⟩
    · rintro ⟨p, hp', hs⟩
      obtain ⟨a, ha⟩ := hk p hp'
      rw [ha] at hs
      exact ⟨p, hp', by rw [ha]; simpa [Lit.sameKey, intOf, eq_comm] using hs⟩
  · simp [intKeys, Go.Maps.size]
theorem nodup_le : ∀ {l k : List Int}, l.Nodup → (∀ x ∈ l, x ∈ k) → l.length ≤ k.length
  | [], _, _, _ => Nat.zero_le _
  | x :: r, k, h, hs => by
    rw [List.nodup_cons] at h
    have hx := hs x (List.mem_cons_self ..)
    have := nodup_le (k := k.erase x) h.2 fun y hy => (List.mem_erase_of_ne (fun e : y = x => h.1 (by rw [← e]; exact hy))).2 (hs y (List.mem_cons_of_mem _ hy))
    rw [List.length_erase_of_mem hx] at this
    have := List.length_pos_of_mem hx
    simp only [List.length_cons]; omega
theorem MapV.small (h : MapV w b n M) (ks : List Int) (hk : ∀ f, Fits f → M f ≠ none → f ∈ ks) : MapV w b ks.length M := by
  obtain ⟨D, h1, h3⟩ := h
  obtain ⟨k1, k2, k3, k4⟩ := keys_nodup h1
  have hl : Go.Maps.size D ≤ ks.length := by
    rw [← k4]
    refine nodup_le k1 fun x hx => hk x (k2 x hx) fun e => ?_
    have := (h3 x (k2 x hx)).1
    rw [(k3 x).1 hx, e] at this
    cases this
  refine ⟨D, ?_, h3⟩
  obtain ⟨es, clock, e1, e2, e3, e4⟩ := h1
  refine ⟨es, clock, e1, e2, ?_, e4⟩
  have e5 : es.size = Go.Maps.size D := by rw [e4]; simp [Go.Maps.size, length_sorted]
  rw [e5]; exact hl
theorem MapV.mono (h : MapV w b n M) {m : Nat} (hm : n ≤ m) : MapV w b m M := by
  obtain ⟨D, ⟨es, clock, e1, e2, e3, e4⟩, h3⟩ := h
  exact ⟨D, ⟨es, clock, e1, e2, Nat.le_trans e3 hm, e4⟩, h3⟩
end

/-! The object. -/
structure Rm where
  s : Nat
  b : Nat
  M : Int → Option Value
/-- What it says of a frame. -/
def Rm.row (T : Rm) (f : Int) : Value := (T.M f).getD (.slice none 0 0)
/-- It lies in memory, and says L. -/
structure RmIs (B : Nat) (w : World) (T : Rm) (L : List On) : Prop where
  top : Lrow w T.s 51 [.map (some T.b)]
  map : MapV w T.b L.length T.M
  good : Good L
  row : ∀ f, Fits f → w.ownsRow B 27 2 (T.row f) (sps L f).length (pcells (sps L f))
  isS : ∀ f, Fits f → ((T.M f).isSome = true ↔ sps L f ≠ [])
  out : ∀ f, ¬ Fits f → T.M f = none
  apart : ∀ f g u v k, T.M f = some u → T.M g = some v → u.ownBlock = some k → v.ownBlock = some k → f = g
  los : B ≤ T.s
  lob : B ≤ T.b
/-- The blocks that its calls turn. -/
def Mine (T : Rm) (k : Nat) : Prop := k = T.s ∨ k = T.b ∨ ∃ f v, T.M f = some v ∧ v.ownBlock = some k
section
variable {w w' : World} {B : Nat} {T : Rm} {L : List On}
theorem okF_fits {f : Int} (h : okF f) : Fits f := by unfold okF at h; unfold Fits; omega
theorem RmIs.fits (h : RmIs B w T L) {f : Int} {v : Value} (e : T.M f = some v) : Fits f := Classical.byContradiction fun k => by rw [h.out f k] at e; cases e
theorem RmIs.own (h : RmIs B w T L) {f : Int} {v : Value} (e : T.M f = some v) : w.ownsRow B 27 2 v (sps L f).length (pcells (sps L f)) := by
  have := h.row f (h.fits e)
  unfold Rm.row at this
  rw [e] at this
  exact this
theorem RmIs.keep (h : RmIs B w T L) (hk : ∀ k, Mine T k → w'.heap[k]? = w.heap[k]?) : RmIs B w' T L :=
  ⟨(hk _ (Or.inl rfl)).trans h.top, h.map.heap (hk _ (Or.inr (Or.inl rfl))), h.good, fun f hf => by
    refine own_heap (h.row f hf) fun g e => ?_
    unfold Rm.row at e
    cases hm : T.M f with
    | none => rw [hm] at e; cases e
    | some v => rw [hm] at e; exact hk g (Or.inr (Or.inr ⟨f, v, hm, e⟩)), h.isS, h.out, h.apart, h.los, h.lob⟩
theorem RmIs.lt (h : RmIs B w T L) : ∀ k, Mine T k → k < w.heap.size := by
  rintro k (rfl | rfl | ⟨f, v, hv, e⟩)
  · exact h.top.lt
  · exact h.map.lt
  · obtain ⟨vs, r, _⟩ := own_block (h.own hv) e; exact r.lt
theorem RmIs.lo (h : RmIs B w T L) : ∀ k, Mine T k → B ≤ k := by
  rintro k (rfl | rfl | ⟨f, v, hv, e⟩)
  · exact h.los
  · exact h.lob
  · obtain ⟨vs, _, r⟩ := own_block (h.own hv) e; exact r
theorem RmIs.call (h : RmIs B w T L) (hb : Below w.heap.size w w') : RmIs B w' T L := h.keep fun k hk => hb.block k (h.lt k hk)
theorem RmIs.alloc (h : RmIs B w T L) (o : Obj) : RmIs B (w.alloc o) T L := h.call ((Below.refl _ _).alloc (Nat.le_refl _) o)
theorem RmIs.drewN (h : RmIs B w T L) (k : Nat) : RmIs B (w.drewN k) T L := h.keep fun _ _ => rfl
theorem RmIs.foot {X : Nat → Prop} (h : RmIs B w T L) (hf : Foot X w w') (hx : ∀ k, Mine T k → ¬ X k) : RmIs B w' T L := h.keep fun k hk => hf.keep k (h.lt k hk) (hx k hk)
/-- A block of another type is none of its own. -/
theorem RmIs.other (h : RmIs B w T L) {g : Nat} {t : TypeId} {vs : List Value} (r : Lrow w g t vs) (h1 : t ≠ 51) (h2 : t ≠ 27) : ¬ Mine T g := by
  rintro (rfl | rfl | ⟨f, v, hv, e⟩)
  · exact r.apart h.top h1 rfl
  · exact h.map.apart r rfl
  · obtain ⟨us, r2, _⟩ := own_block (h.own hv) e
    exact r.apart r2 h2 rfl
theorem RmIs.noRow (h : RmIs B w T L) {f : Int} (hf : Fits f) (e : sps L f = []) : T.row f = .slice none 0 0 := by
  have := h.isS f hf
  unfold Rm.row
  cases hm : T.M f with
  | none => rfl
  | some v => rw [hm] at this; exact absurd e (this.1 rfl)
/-- 'm.spots[f]'. -/
theorem RmIs.look (h : RmIs B w T L) {f : Int} (hf : Fits f) : (Instr.lookup 49 (.map (some T.b)) (.int .i64 f) false).run Try.prog w = .ok (T.row f) w := h.map.look hf
end
end Go.Proofs.Ytgpbbmcadifdhaa
