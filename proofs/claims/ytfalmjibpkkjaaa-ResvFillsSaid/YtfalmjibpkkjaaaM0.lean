/- Maps of ints to whatever values, as they lie in memory: looking up, putting, deleting, counting, ranging over them. No program is named. -/
import Derived.Test.YtfalmjibpkkjaaaK0
import Derived.Maps.OwnSet
import Derived.Maps.RangeWalk
import Derived.Lib.SlKeysI
namespace Go.Proofs.Ytfalmjibpkkjaaa
open Go.RowKit
/-- A type of maps with ints for keys. -/
structure MapTy (P : Program) where
  k : TypeId
  t : TypeId
  e : TypeId
  z : Value
  hk : P.underlying k = some (.int .i64)
  ht : P.underlying t = some (.map k e)
  hz : ∀ w, (zeroValue e).run P w = .ok z w
def FitM (n : Int) : Prop := -9223372036854775808 ≤ n ∧ n ≤ 9223372036854775807
theorem fitM_wf {n : Int} (h : FitM n) : (Lit.int .i64 n).wf = true := WalkArith.wf_i64 h
theorem wf_fitM {n : Int} (h : (Lit.int .i64 n).wf = true) : FitM n := by
  unfold FitM
  simp [Lit.wf, IntKind.min, IntKind.max, IntKind.signed, IntKind.bits] at h
  omega
/-- How an element reads: as it is. -/
def heldM (v : Value) : Option (DataW Value × List MemPlace) := some (.held v, [])
def updM {α : Type} (M : Int → Option α) (f : Int) (x : Option α) : Int → Option α := fun g => if g = f then x else M g
theorem updM_same {α : Type} (M : Int → Option α) (f : Int) (x : Option α) : updM M f x f = x := if_pos rfl
theorem updM_other {α : Type} (M : Int → Option α) {f g : Int} (x : Option α) (h : g ≠ f) : updM M f x g = M g := if_neg h
theorem litM_ne {f g : Int} (h : g ≠ f) : (Lit.int .i64 g) ≠ (Lit.int .i64 f) := fun e => h (by injection e)
section
variable {P : Program} (T : MapTy P)
theorem MapTy.law : Go.Maps.Keyed P T.k := Go.Maps.int_keyed (q := .i64) T.hk
theorem MapTy.key {f : Int} (hf : FitM f) : keyOf P T.k (.int .i64 f) = some (.int .i64 f) := Go.Maps.keyOf_int_mk T.hk (fitM_wf hf)
/-- What a map says: M. -/
def Says (D : DataW Value) (M : Int → Option Value) : Prop := ∀ f, FitM f → Go.Maps.has D (.int .i64 f) = (M f).isSome ∧ ∀ v, M f = some v → ∀ zd, D.atKey (.int .i64 f) zd = .held v
/-- The map in block b: at most n entries, those of M. -/
def MapTy.At (w : World) (b n : Nat) (M : Int → Option Value) : Prop := ∃ D : DataW Value, w.ownsMap P T.k heldM b n D ∧ Says D M
variable {T} {w w' : World} {b n : Nat} {M : Int → Option Value}
theorem MapTy.At.heap (h : T.At w b n M) (hk : w'.heap[b]? = w.heap[b]?) : T.At w' b n M := by
  obtain ⟨D, ⟨es, clock, hb, r⟩, h2⟩ := h
  exact ⟨D, ⟨es, clock, hk.trans hb, r⟩, h2⟩
theorem MapTy.At.lt (h : T.At w b n M) : b < w.heap.size := by obtain ⟨D, h1, _⟩ := h; exact h1.lt
theorem MapTy.At.call (h : T.At w b n M) (hb : Below w.heap.size w w') : T.At w' b n M := h.heap (hb.block b h.lt)
theorem MapTy.At.apart (h : T.At w b n M) {g : Nat} {t : TypeId} {vs : List Value} (r : Lrow w g t vs) : g ≠ b := by
  obtain ⟨D, ⟨es, clock, hb, _⟩, _⟩ := h
  rintro rfl
  unfold Lrow at r
  rw [r] at hb
  cases hb
theorem MapTy.At.eq (h : T.At w b n M) {M' : Int → Option Value} (e : ∀ f, FitM f → M' f = M f) : T.At w b n M' := by
  obtain ⟨D, h1, h2⟩ := h
  exact ⟨D, h1, fun f hf => by rw [e f hf]; exact h2 f hf⟩
theorem MapTy.new (w : World) : T.At (w.alloc (.map #[] 0)) w.heap.size 0 (fun _ => none) :=
  ⟨.map [], World.ownsMap_made _ _ _ _, fun _ _ => ⟨rfl, fun _ e => by cases e⟩⟩
/-- 'm[f]', and 'v, ok := m[f]'. -/
theorem MapTy.At.look (h : T.At w b n M) {f : Int} (hf : FitM f) (c : Bool) : (Instr.lookup T.t (.map (some b)) (.int .i64 f) c).run P w = .ok (if c then .tuple #[(M f).getD T.z, .bool (M f).isSome] else (M f).getD T.z) w := by
  obtain ⟨D, ⟨es, clock, hb, F, _, rfl⟩, h3⟩ := h
  obtain ⟨g1, g2⟩ := h3 f hf
  rcases Go.Maps.fit_look c T.law T.ht (T.hz w) hb F (T.key hf) with ⟨hrun, _, hat⟩ | ⟨e0, y, _, _, hrun, hRv, hat, _⟩
  · rw [Go.Maps.has_false_of_atKey hat] at g1
    cases hm : M f with
    | none => exact hrun
    | some v => rw [hm] at g1; cases g1
  · rw [Go.Maps.has_true_of_atKey hat] at g1
    cases hm : M f with
    | none => rw [hm] at g1; cases g1
    | some v =>
      have e1 := g2 v hm (.held T.z)
      rw [hat] at e1
      unfold heldM at hRv
      injection hRv with hRv
      rw [← hRv] at e1
      injection e1 with e1
      rw [← e1]
      exact hrun
/-- 'm[f] = v'. -/
theorem MapTy.At.put (h : T.At w b n M) (hn : n < 1000000) {f : Int} (v : Value) (hf : FitM f) : ∃ w', (Instr.mapUpdate T.t (.map (some b)) (.int .i64 f) v).run P w = .ok () w' ∧ w.grownBy w' (some b) ∧ w'.heap.size = w.heap.size ∧ T.At w' b (n + 1) (updM M f (some v)) := by
  obtain ⟨D, h1, h3⟩ := h
  obtain ⟨w', hr, g1, g2⟩ := h1.store T.law T.ht (by unfold maxLen; omega) (T.key hf) (show heldM v = some (.held v, []) from rfl)
  have hT := h1.tidy T.law
  have hK : WideAt.IsKeyLit (.int .i64 f) := trivial
  refine ⟨w', hr, g2.grown, ?_, D.put (.int .i64 f) (.held v), g1, fun g hg => ?_⟩
  · obtain ⟨_, _, _, _, _, rfl⟩ := g2
    simp [Go.ChangeMaps.setBlock]
  · by_cases e : g = f
    · subst e
      refine ⟨by rw [Go.Maps.has_put_same hT.isMap hK, updM_same]; rfl, fun u hu zd => ?_⟩
      rw [updM_same] at hu
      injection hu with hu
      rw [Go.Maps.atKey_put_same hT.isMap hK, hu]
    · rw [updM_other _ _ e]
      refine ⟨by rw [Go.Maps.has_put_other (litM_ne e)]; exact (h3 g hg).1, fun u hu zd => ?_⟩
      rw [Go.Maps.atKey_put_other (litM_ne e)]
      exact (h3 g hg).2 u hu zd
theorem Says.del {D : DataW Value} (h3 : Says D M) (f : Int) : Says (D.del (.int .i64 f)) (updM M f none) := fun g hg => by
  by_cases e : g = f
  · subst e
    refine ⟨by rw [Go.Maps.has_del_same, updM_same]; rfl, fun u hu zd => ?_⟩
    rw [updM_same] at hu
    cases hu
  · rw [updM_other _ _ e]
    refine ⟨by rw [Go.Maps.has_del_other (litM_ne e)]; exact (h3 g hg).1, fun u hu zd => ?_⟩
    rw [Go.Maps.atKey_del_other (litM_ne e)]
    exact (h3 g hg).2 u hu zd
/-- 'delete(m, f)'. -/
theorem MapTy.At.drop (h : T.At w b n M) {f : Int} (hf : FitM f) : ∃ w', (∀ ty, (Builtin.delete_ #[T.t, T.k] ty #[.map (some b), .int .i64 f]).run P w = .ok (.tuple #[]) w') ∧ w.grownBy w' (some b) ∧ w'.heap.size = w.heap.size ∧ T.At w' b n (updM M f none) := by
  obtain ⟨D, h1, h3⟩ := h
  obtain ⟨w', hr, g1, g2⟩ := h1.drop T.law T.ht (T.key hf) 0
  exact ⟨w', fun ty => hr, g2.grown, (by obtain ⟨_, _, _, _, _, rfl⟩ := g2; simp [Go.ChangeMaps.setBlock]), D.del (.int .i64 f), g1, h3.del f⟩
/-- Its keys. -/
theorem keysM {k : TypeId} {D : DataW Value} (hk : P.underlying k = some (.int .i64)) (h : w.ownsMap P k heldM b n D) : (intKeys D).Nodup ∧ (∀ f, f ∈ intKeys D → FitM f) ∧ (∀ f, f ∈ intKeys D ↔ Go.Maps.has D (.int .i64 f) = true) ∧ (intKeys D).length = Go.Maps.size D := by
  have hwf := intKeys_wf h hk
  obtain ⟨es, hD, hpw, _⟩ := h.entries (Go.Maps.int_keyed hk)
  obtain ⟨es', hD', hko⟩ := h.keysOf
  obtain rfl : es = es' := by rw [hD] at hD'; simpa using hD'
  subst hD
  have hkk : ∀ p ∈ es, ∃ x, p.1 = Lit.int .i64 x := fun p hp => by obtain ⟨v, hv⟩ := hko p hp; obtain ⟨x, _, hx, _⟩ := Go.Maps.keyOf_i64 hk hv; exact ⟨x, hx⟩
  refine ⟨?_, fun f hf => wf_fitM (hwf f hf), fun f => ?_, ?_⟩
  · show (es.map fun p => intOf p.1).Nodup
    refine List.pairwise_map.2 (hpw.imp_of_mem fun {p q} hp' hq' hne e => hne ?_)
    obtain ⟨a, ha⟩ := hkk p hp'
    obtain ⟨b, hb⟩ := hkk q hq'
    rw [ha, hb] at e ⊢
    exact congrArg _ e
  · rw [Go.Maps.has_eq, List.any_eq_true]
    show f ∈ es.map (fun p => intOf p.1) ↔ _
    rw [List.mem_map]
    constructor
    · rintro ⟨p, hp', rfl⟩
      obtain ⟨a, ha⟩ := hkk p hp'
      exact ⟨p, hp', by rw [ha]; simp [Lit.sameKey, intOf]⟩
    · rintro ⟨p, hp', hs⟩
      obtain ⟨a, ha⟩ := hkk p hp'
      rw [ha] at hs
      exact ⟨p, hp', by rw [ha]; simpa [Lit.sameKey, intOf, eq_comm] using hs⟩
  · simp [intKeys, Go.Maps.size]
theorem nodupM_le : ∀ {l k : List Int}, l.Nodup → (∀ x ∈ l, x ∈ k) → l.length ≤ k.length
  | [], _, _, _ => Nat.zero_le _
  | x :: r, k, h, hs => by
    rw [List.nodup_cons] at h
    have hx := hs x (List.mem_cons_self ..)
    have := nodupM_le (k := k.erase x) h.2 fun y hy => (List.mem_erase_of_ne (fun e : y = x => h.1 (by rw [← e]; exact hy))).2 (hs y (List.mem_cons_of_mem _ hy))
    rw [List.length_erase_of_mem hx] at this
    have := List.length_pos_of_mem hx
    simp only [List.length_cons]; omega
theorem sizeM {k : TypeId} {D : DataW Value} {es : Array MapEntry} (e4 : D = .map ((es.toList.map (Go.WideElems.rg P k heldM)).foldr DataW.insert [])) : es.size = Go.Maps.size D := by
  rw [e4]; simp [Go.Maps.size, length_sorted]
/-- As many entries as there are keys. -/
theorem MapTy.At.small (h : T.At w b n M) (ks : List Int) (hk : ∀ f, FitM f → M f ≠ none → f ∈ ks) : T.At w b ks.length M := by
  obtain ⟨D, h1, h3⟩ := h
  obtain ⟨k1, k2, k3, k4⟩ := keysM T.hk h1
  have hl : Go.Maps.size D ≤ ks.length := by
    rw [← k4]
    refine nodupM_le k1 fun x hx => hk x (k2 x hx) fun e => ?_
    have := (h3 x (k2 x hx)).1
    rw [(k3 x).1 hx, e] at this
    cases this
  refine ⟨D, ?_, h3⟩
  obtain ⟨es, clock, e1, e2, e3, e4⟩ := h1
  exact ⟨es, clock, e1, e2, by rw [sizeM e4]; exact hl, e4⟩
theorem MapTy.At.mono (h : T.At w b n M) {m : Nat} (hm : n ≤ m) : T.At w b m M := by
  obtain ⟨D, ⟨es, clock, e1, e2, e3, e4⟩, h3⟩ := h
  exact ⟨D, ⟨es, clock, e1, e2, Nat.le_trans e3 hm, e4⟩, h3⟩
/-- 'len(m)': as many as the keys on a list without repeats. -/
theorem MapTy.At.len (h : T.At w b n M) {ks : List Int} (hn : ks.Nodup) (hk : ∀ f, f ∈ ks ↔ FitM f ∧ M f ≠ none) (ty : TypeId) : (Builtin.len_ #[T.t] ty #[.map (some b)]).run P w = .ok (.int .i64 ks.length) w := by
  obtain ⟨D, h1, h3⟩ := h
  obtain ⟨k1, k2, k3, k4⟩ := keysM T.hk h1
  have hp : (intKeys D).Perm ks := (List.perm_ext_iff_of_nodup k1 hn).2 fun f => by
    rw [hk f]
    constructor
    · intro hf
      refine ⟨k2 f hf, fun e => ?_⟩
      have := (h3 f (k2 f hf)).1
      rw [(k3 f).1 hf, e] at this
      cases this
    · rintro ⟨hf, hne⟩
      rw [k3 f, (h3 f hf).1]
      cases hm : M f with
      | none => exact absurd hm hne
      | some v => rfl
  rw [← hp.length_eq, k4]
  exact h1.len T.ht ty
end
end Go.Proofs.Ytfalmjibpkkjaaa
