/- Maps with keys of whatever type to whatever values, as they lie in memory: looking up, putting, deleting, ranging. No program is named. -/
import Derived.Test.YtfalmjibpkkjaaaM0
import Derived.DeepKeys5
namespace Go.Proofs.Ytfalmjibpkkjaaa
open Go.RowKit
/-- A type of maps whose keys are told by a type κ of one's own. -/
structure MapTK (P : Program) (κ : Type) where
  k : TypeId
  t : TypeId
  e : TypeId
  z : Value
  kv : κ → Value
  kl : κ → Lit
  fit : κ → Prop
  law : Go.Maps.Keyed P k
  ht : P.underlying t = some (.map k e)
  hz : ∀ w, (zeroValue e).run P w = .ok z w
  key : ∀ a, fit a → keyOf P k (kv a) = some (kl a)
  back : ∀ v l, keyOf P k v = some l → ∃ a, fit a ∧ v = kv a ∧ l = kl a
  inj : ∀ a b, kv a = kv b → a = b
section
variable {P : Program} {κ : Type} (T : MapTK P κ)
theorem MapTK.kl_ne {a b : κ} (ha : T.fit a) (hb : T.fit b) (h : a ≠ b) : T.kl a ≠ T.kl b := fun e => h (T.inj a b (T.law.inj (T.key a ha) (by rw [e]; exact T.key b hb)))
/-- What a map says: M. -/
def MapTK.Says (D : DataW Value) (M : κ → Option Value) : Prop := ∀ f, T.fit f → Go.Maps.has D (T.kl f) = (M f).isSome ∧ ∀ v, M f = some v → ∀ zd, D.atKey (T.kl f) zd = .held v
/-- The map in block b: at most n entries, those of M. -/
def MapTK.At (w : World) (b n : Nat) (M : κ → Option Value) : Prop := ∃ D : DataW Value, w.ownsMap P T.k heldM b n D ∧ T.Says D M
variable {T} {w w' : World} {b n : Nat} {M : κ → Option Value}
theorem MapTK.At.heap (h : T.At w b n M) (hk : w'.heap[b]? = w.heap[b]?) : T.At w' b n M := by
  obtain ⟨D, ⟨es, clock, hb, r⟩, h2⟩ := h
  exact ⟨D, ⟨es, clock, hk.trans hb, r⟩, h2⟩
theorem MapTK.At.lt (h : T.At w b n M) : b < w.heap.size := by obtain ⟨D, h1, _⟩ := h; exact h1.lt
theorem MapTK.At.call (h : T.At w b n M) (hb : Below w.heap.size w w') : T.At w' b n M := h.heap (hb.block b h.lt)
theorem MapTK.At.apart (h : T.At w b n M) {g : Nat} {t : TypeId} {vs : List Value} (r : Lrow w g t vs) : g ≠ b := by
  obtain ⟨D, ⟨es, clock, hb, _⟩, _⟩ := h
  rintro rfl
  unfold Lrow at r
  rw [r] at hb
  cases hb
theorem MapTK.At.eq (h : T.At w b n M) {M' : κ → Option Value} (e : ∀ f, T.fit f → M' f = M f) : T.At w b n M' := by
  obtain ⟨D, h1, h2⟩ := h
  exact ⟨D, h1, fun f hf => by rw [e f hf]; exact h2 f hf⟩
theorem MapTK.At.mono (h : T.At w b n M) {m : Nat} (hm : n ≤ m) : T.At w b m M := by
  obtain ⟨D, ⟨es, clock, e1, e2, e3, e4⟩, h3⟩ := h
  exact ⟨D, ⟨es, clock, e1, e2, Nat.le_trans e3 hm, e4⟩, h3⟩
theorem MapTK.new (w : World) : T.At (w.alloc (.map #[] 0)) w.heap.size 0 (fun _ => none) :=
  ⟨.map [], World.ownsMap_made _ _ _ _, fun _ _ => ⟨rfl, fun _ e => by cases e⟩⟩
/-- 'm[f]', and 'v, ok := m[f]'. -/
theorem MapTK.At.look (h : T.At w b n M) {f : κ} (hf : T.fit f) (c : Bool) : (Instr.lookup T.t (.map (some b)) (T.kv f) c).run P w = .ok (if c then .tuple #[(M f).getD T.z, .bool (M f).isSome] else (M f).getD T.z) w := by
  obtain ⟨D, ⟨es, clock, hb, F, _, rfl⟩, h3⟩ := h
  obtain ⟨g1, g2⟩ := h3 f hf
  rcases Go.Maps.fit_look c T.law T.ht (T.hz w) hb F (T.key f hf) with ⟨hrun, _, hat⟩ | ⟨e0, y, _, _, hrun, hRv, hat, _⟩
  · rw [Go.Maps.has_false_of_atKey hat] at g1
    cases hm : M f with
    | none => exact hrun
    | some v => rw [hm] at g1; cases g1
  · rw [Go.Maps.has_true_of_atKey hat] at g1
    cases hm : M f with
    | none => rw [hm] at g1; cases g1
    | some v =>
      have e1 := g2 v hm (.held T.z)
      rw [hat] at e1
      unfold heldM at hRv
      injection hRv with hRv
      rw [← hRv] at e1
      injection e1 with e1
      rw [← e1]
      exact hrun
open Classical in
noncomputable def updK (M : κ → Option Value) (f : κ) (x : Option Value) : κ → Option Value := fun g => if g = f then x else M g
theorem updK_same (M : κ → Option Value) (f : κ) (x : Option Value) : updK M f x f = x := if_pos rfl
theorem updK_other (M : κ → Option Value) {f g : κ} (x : Option Value) (h : g ≠ f) : updK M f x g = M g := if_neg h
/-- 'm[f] = v'. -/
theorem MapTK.At.put (h : T.At w b n M) (hn : n < 1000000) {f : κ} (v : Value) (hf : T.fit f) : ∃ w', (Instr.mapUpdate T.t (.map (some b)) (T.kv f) v).run P w = .ok () w' ∧ w.grownBy w' (some b) ∧ w'.heap.size = w.heap.size ∧ T.At w' b (n + 1) (updK M f (some v)) := by
  obtain ⟨D, h1, h3⟩ := h
  obtain ⟨w', hr, g1, g2⟩ := h1.store T.law T.ht (by unfold maxLen; omega) (T.key f hf) (show heldM v = some (.held v, []) from rfl)
  have hT := h1.tidy T.law
  have hK : WideAt.IsKeyLit (T.kl f) := T.law.key (T.key f hf)
  refine ⟨w', hr, g2.grown, ?_, D.put (T.kl f) (.held v), g1, fun g hg => ?_⟩
  · obtain ⟨_, _, _, _, _, rfl⟩ := g2
    simp [Go.ChangeMaps.setBlock]
  · by_cases e : g = f
    · subst e
      refine ⟨by rw [Go.Maps.has_put_same hT.isMap hK, updK_same]; rfl, fun u hu zd => ?_⟩
      rw [updK_same] at hu
      injection hu with hu
      rw [Go.Maps.atKey_put_same hT.isMap hK, hu]
    · have hne := T.kl_ne hg hf e
      rw [updK_other _ _ e]
      refine ⟨by rw [Go.Maps.has_put_other hne]; exact (h3 g hg).1, fun u hu zd => ?_⟩
      rw [Go.Maps.atKey_put_other hne]
      exact (h3 g hg).2 u hu zd
/-- 'delete(m, f)'. -/
theorem MapTK.At.drop (h : T.At w b n M) {f : κ} (hf : T.fit f) : ∃ w', (∀ ty, (Builtin.delete_ #[T.t, T.k] ty #[.map (some b), T.kv f]).run P w = .ok (.tuple #[]) w') ∧ w.grownBy w' (some b) ∧ w'.heap.size = w.heap.size ∧ T.At w' b n (updK M f none) := by
  obtain ⟨D, h1, h3⟩ := h
  obtain ⟨w', hr, g1, g2⟩ := h1.drop T.law T.ht (T.key f hf) 0
  refine ⟨w', fun ty => hr, g2.grown, (by obtain ⟨_, _, _, _, _, rfl⟩ := g2; simp [Go.ChangeMaps.setBlock]), D.del (T.kl f), g1, fun g hg => ?_⟩
  by_cases e : g = f
  · subst e
    refine ⟨by rw [Go.Maps.has_del_same, updK_same]; rfl, fun u hu zd => ?_⟩
    rw [updK_same] at hu
    cases hu
  · have hne := T.kl_ne hg hf e
    rw [updK_other _ _ e]
    refine ⟨by rw [Go.Maps.has_del_other hne]; exact (h3 g hg).1, fun u hu zd => ?_⟩
    rw [Go.Maps.atKey_del_other hne]
    exact (h3 g hg).2 u hu zd
/-! Its keys, gathered one by one. -/
def MapTK.Gone (T : MapTK P κ) (D : DataW Value) (left : Lit → Bool) (ss : List κ) : Prop := ss.Nodup ∧ (∀ a ∈ ss, T.fit a) ∧ ∀ a, T.fit a → (a ∈ ss ↔ (Go.Maps.has D (T.kl a) = true ∧ left (T.kl a) = false))
variable {D : DataW Value} {left : Lit → Bool} {ss : List κ}
theorem MapTK.Gone.start (T : MapTK P κ) (D : DataW Value) : T.Gone D (Go.Maps.has D) [] := ⟨List.nodup_nil, fun a h => absurd h (by simp), fun a _ => by cases Go.Maps.has D (T.kl a) <;> simp⟩
theorem MapTK.Gone.step (h : T.Gone D left ss) {x : κ} (hx : T.fit x) {y : DataW Value} (hlk : left (T.kl x) = true) (hat : ∀ zd, D.atKey (T.kl x) zd = y) : T.Gone D (fun z => left z && !z.sameKey (T.kl x)) (ss ++ [x]) := by
  have hhas : Go.Maps.has D (T.kl x) = true := Go.Maps.has_true_of_atKey hat
  have hnew : x ∉ ss := fun hm => by have := ((h.2.2 x hx).1 hm).2; rw [hlk] at this; cases this
  have hK : WideAt.IsKeyLit (T.kl x) := T.law.key (T.key x hx)
  refine ⟨List.nodup_append.2 ⟨h.1, by simp, fun a ha b hb => by simp at hb; subst hb; exact fun e => hnew (e ▸ ha)⟩, fun a ha => ?_, fun a ha => ?_⟩
  · rcases List.mem_append.1 ha with ha | ha
    · exact h.2.1 a ha
    · simp at ha; subst ha; exact hx
  · by_cases e : a = x
    · subst e; simp [hhas, WideAt.sameKey_self hK]
    · have hs : (T.kl a).sameKey (T.kl x) = false := by
        cases hs : (T.kl a).sameKey (T.kl x)
        · rfl
        · exact absurd (WideAt.sameKey_eq hs) (T.kl_ne ha hx e)
      simp [h.2.2 a ha, e, hs]
/-- When all have come. -/
theorem MapTK.Gone.all (h : T.Gone D left ss) (hs : T.Says D M) (hl : ∀ kl, left kl = false) : ss.Nodup ∧ ∀ a, a ∈ ss ↔ T.fit a ∧ M a ≠ none := by
  refine ⟨h.1, fun a => ?_⟩
  constructor
  · intro ha
    have hf := h.2.1 a ha
    refine ⟨hf, fun e => ?_⟩
    have h1 := ((h.2.2 a hf).1 ha).1
    rw [(hs a hf).1, e] at h1
    cases h1
  · rintro ⟨hf, hne⟩
    rw [h.2.2 a hf, (hs a hf).1, hl]
    cases hm : M a with
    | none => exact absurd hm hne
    | some v => exact ⟨rfl, rfl⟩
end
end Go.Proofs.Ytfalmjibpkkjaaa
