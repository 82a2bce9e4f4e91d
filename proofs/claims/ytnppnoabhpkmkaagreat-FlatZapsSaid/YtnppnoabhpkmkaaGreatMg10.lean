/- Maps of ints to whatever values, as they lie in memory: looking up, putting, deleting, counting, ranging over them. No program is named. -/
import Derived.Test.YtnppnoabhpkmkaaGreatMg00
import Derived.Maps.OwnSet
import Derived.Maps.RangeWalk
import Derived.Lib.SlKeysI
import Derived.Test.YtnppnoabhpkmkaaGreatMg01
namespace Go.Proofs.YtnppnoabhpkmkaaGreat
open Go.RowKit
/-- A type of maps with ints for keys. -/
structure MapTy (P : Program) where
  k : TypeId
  t : TypeId
  e : TypeId
  z : Value
  hk : P.underlying k = some (.int .i64)
  ht : P.underlying t = some (.map k e)
  hz : ∀ w, (zeroValue e).run P w = .ok z w
def FitM (n : Int) : Prop := -9223372036854775808 ≤ n ∧ n ≤ 9223372036854775807
theorem fitM_wf {n : Int} (h : FitM n) : (Lit.int .i64 n).wf = true := WalkArith.wf_i64 h
theorem wf_fitM {n : Int} (h : (Lit.int .i64 n).wf = true) : FitM n := by
  unfold FitM
  simp [Lit.wf, IntKind.min, IntKind.max, IntKind.signed, IntKind.bits] at h
  omega
/-- How an element reads: as it is. -/
def heldM (v : Value) : Option (DataW Value × List MemPlace) := some (.held v, [])
def updM {α : Type} (M : Int → Option α) (f : Int) (x : Option α) : Int → Option α := fun g => if g = f then x else M g
theorem updM_same {α : Type} (M : Int → Option α) (f : Int) (x : Option α) : updM M f x f = x := if_pos rfl
theorem updM_other {α : Type} (M : Int → Option α) {f g : Int} (x : Option α) (h : g ≠ f) : updM M f x g = M g := if_neg h
theorem litM_ne {f g : Int} (h : g ≠ f) : (Lit.int .i64 g) ≠ (Lit.int .i64 f) := fun e => h (by injection e)
section
variable {P : Program} (T : MapTy P)
theorem MapTy.law : Go.Maps.Keyed P T.k := Go.Maps.int_keyed (q := .i64) T.hk
theorem MapTy.key {f : Int} (hf : FitM f) : keyOf P T.k (.int .i64 f) = some (.int .i64 f) := Go.Maps.keyOf_int_mk T.hk (fitM_wf hf)
/-- What a map says: M. -/
def Says (D : DataW Value) (M : Int → Option Value) : Prop := ∀ f, FitM f → Go.Maps.has D (.int .i64 f) = (M f).isSome ∧ ∀ v, M f = some v → ∀ zd, D.atKey (.int .i64 f) zd = .held v
/-- The map in block b: at most n entries, those of M. -/
def MapTy.At (w : World) (b n : Nat) (M : Int → Option Value) : Prop := ∃ D : DataW Value, w.ownsMap P T.k heldM b n D ∧ Says D M
variable {T} {w w' : World} {b n : Nat} {M : Int → Option Value}
theorem MapTy.At.heap (h : T.At w b n M) (hk : w'.heap[b]? = w.heap[b]?) : T.At w' b n M := by
  obtain ⟨D, ⟨es, clock, hb, r⟩, h2⟩ := h
  exact ⟨D, ⟨es, clock, hk.trans hb, r⟩, h2⟩
theorem MapTy.At.lt (h : T.At w b n M) : b < w.heap.size := by obtain ⟨D, h1, _⟩ := h; exact h1.lt
theorem MapTy.At.call (h : T.At w b n M) (hb : Below w.heap.size w w') : T.At w' b n M := h.heap (hb.block b h.lt)
theorem MapTy.At.apart (h : T.At w b n M) {g : Nat} {t : TypeId} {vs : List Value} (r : Lrow w g t vs) : g ≠ b := by
  obtain ⟨D, ⟨es, clock, hb, _⟩, _⟩ := h
  rintro rfl
  unfold Lrow at r
  rw [r] at hb
  cases hb
theorem MapTy.At.eq (h : T.At w b n M) {M' : Int → Option Value} (e : ∀ f, FitM f → M' f = M f) : T.At w b n M' := by
  obtain ⟨D, h1, h2⟩ := h
  exact ⟨D, h1, fun f hf => by rw [e f hf]; exact h2 f hf⟩
theorem MapTy.new (w : World) : T.At (w.alloc (.map #[] 0)) w.heap.size 0 (fun _ => none) :=
  ⟨.map [], World.ownsMap_made _ _ _ _, fun _ _ => ⟨rfl, fun _ e => by cases e⟩⟩
/-- 'm[f]', and 'v, ok := m[f]'. -/
theorem MapTy.At.look (h : T.At w b n M) {f : Int} (hf : FitM f) (c : Bool) : (Instr.lookup T.t (.map (some b)) (.int .i64 f) c).run P w = .ok (if c then .tuple #[(M f).getD T.z, .bool (M f).isSome] else (M f).getD T.z) w := by
  obtain ⟨D, ⟨es, clock, hb, F, _, rfl⟩, h3⟩ := h
  obtain ⟨g1, g2⟩ := h3 f hf
  rcases Go.Maps.fit_look c T.law T.ht (T.hz w) hb F (T.key hf) with ⟨hrun, _, hat⟩ | ⟨e0, y, _, _, hrun, hRv, hat, _⟩
  · rw [Go.Maps.has_false_of_atKey hat] at g1
    cases hm : M f with
    | none => exact hrun
    | some v => rw [hm] at g1; cases g1
  · rw [Go.Maps.has_true_of_atKey hat] at g1
    cases hm : M f with
    | none => rw [hm] at g1; cases g1
    | some v =>
      have e1 := g2 v hm (.held T.z)
      rw [hat] at e1
      unfold heldM at hRv
      injection hRv with hRv
      rw [← hRv] at e1
      injection e1 with e1
      rw [← e1]
      exact hrun
/-- 'm[f] = v'. -/
theorem MapTy.At.put (h : T.At w b n M) (hn : n < 1000000) {f : Int} (v : Value) (hf : FitM f) : ∃ w', (Instr.mapUpdate T.t (.map (some b)) (.int .i64 f) v).run P w = .ok () w' ∧ w.grownBy w' (some b) ∧ w'.heap.size = w.heap.size ∧ T.At w' b (n + 1) (updM M f (some v)) := by
  obtain ⟨D, h1, h3⟩ := h
  obtain ⟨w', hr, g1, g2⟩ := h1.store T.law T.ht (by unfold maxLen; omega) (T.key hf) (show heldM v = some (.held v, []) from rfl)
  have hT := h1.tidy T.law
  have hK : WideAt.IsKeyLit (.int .i64 f) := trivial
  refine ⟨w', hr, g2.grown, ?_, D.put (.int .i64 f) (.held v), g1, fun g hg => ?_⟩
  · obtain ⟨_, _, _, _, _, rfl⟩ := g2
    simp [Go.ChangeMaps.setBlock]
  · by_cases e : g = f
    · subst e
      refine ⟨by rw [Go.Maps.has_put_same hT.isMap hK, updM_same]; rfl, fun u hu zd => ?_⟩
      rw [updM_same] at hu
      injection hu with hu
      rw [Go.Maps.atKey_put_same hT.isMap hK, hu]
    · rw [updM_other _ _ e]
      refine ⟨by rw [Go.Maps.has_put_other (litM_ne e)]; exact (h3 g hg).1, fun u hu zd => ?_⟩
      rw [Go.Maps.atKey_put_other (litM_ne e)]
      exact (h3 g hg).2 u hu zd
theorem Says.del {D : DataW Value} (h3 : Says D M) (f : Int) : Says (D.del (.int .i64 f)) (updM M f none) := fun g hg => by
  by_cases e : g = f
  · subst e
    refine ⟨by rw [Go.Maps.has_del_same, updM_same]; rfl, fun u hu zd => ?_⟩
    rw [updM_same] at hu
    cases hu
  · rw [updM_other _ _ e]
    refine ⟨by rw [Go.Maps.has_del_other (litM_ne e)]; exact (h3 g hg).1, fun u hu zd => ?_⟩
    rw [Go.Maps.atKey_del_other (litM_ne e)]
    exact (h3 g hg).2 u hu zd
/-- 'delete(m, f)'. -/
theorem MapTy.At.drop (h : T.At w b n M) {f : Int} (hf : FitM f) : ∃ w', (∀ ty, (Builtin.delete_ #[T.t, T.k] ty #[.map (some b), .int .i64 f]).run P w = .ok (.tuple #[]) w') ∧ w.grownBy w' (some b) ∧ w'.heap.size = w.heap.size ∧ T.At w' b n (updM M f none) := by
  obtain ⟨D, h1, h3⟩ := h
  obtain ⟨w', hr, g1, g2⟩ := h1.drop T.law T.ht (T.key hf) 0
  exact ⟨w', fun ty => hr, g2.grown, (by obtain ⟨_, _, _, _, _, rfl⟩ := g2; simp [Go.ChangeMaps.setBlock]), D.del (.int .i64 f), g1, h3.del f⟩
/-- Its keys. -/
theorem keysM {k : TypeId} {D : DataW Value} (hk : P.underlying k = some (.int .i64)) (h : w.ownsMap P k heldM b n D) : (intKeys D).Nodup ∧ (∀ f, f ∈ intKeys D → FitM f) ∧ (∀ f, f ∈ intKeys D ↔ Go.Maps.has D (.int .i64 f) = true) ∧ (intKeys D).length = Go.Maps.size D := by
  have hwf := intKeys_wf h hk
  obtain ⟨es, hD, hpw, _⟩ := h.entries (Go.Maps.int_keyed hk)
  obtain ⟨es', hD', hko⟩ := h.keysOf
  obtain rfl : es = es' := by rw [hD] at hD'; simpa using hD'
  subst hD
  have hkk : ∀ p ∈ es, ∃ x, p.1 = Lit.int .i64 x := fun p hp => by obtain ⟨v, hv⟩ := hko p hp; obtain ⟨x, _, hx, _⟩ := Go.Maps.keyOf_i64 hk hv; exact ⟨x, hx⟩
  refine ⟨?_, fun f hf => wf_fitM (hwf f hf), fun f => ?_, ?_⟩
  · show (es.map fun p => intOf p.1).Nodup
    refine List.pairwise_map.2 (hpw.imp_of_mem fun {p q} hp' hq' hne e => hne ?_)
    obtain ⟨a, ha⟩ := hkk p hp'
    obtain ⟨b, hb⟩ := hkk q hq'
    rw [ha, hb] at e ⊢
    exact congrArg _ e
  · rw [Go.Maps.has_eq, List.any_eq_true]
    show f ∈ es.map (fun p => intOf p.1) ↔ _
    rw [List.mem_map]
    constructor
    · rintro ⟨p, hp', rfl⟩
      obtain ⟨a, ha⟩ := hkk p hp'
      exact ⟨p, hp', by rw [ha]; simp [Lit.sameKey, intOf]⟩
    · rintro ⟨p, hp', hs⟩
      obtain ⟨a, ha⟩ := hkk p hp'
      rw [ha] at hs
      exact ⟨p, hp', by rw [ha]; simpa [Lit.sameKey, intOf, eq_comm] using hs⟩
  · simp [intKeys, Go.Maps.size]
theorem nodupM_le : ∀ {l k : List Int}, l.Nodup → (∀ x ∈ l, x ∈ k) → l.length ≤ k.length
  | [], _, _, _ => Nat.zero_le _
  | x :: r, k, h, hs => by
    rw [List.nodup_cons] at h
    have hx := hs x (List.mem_cons_self ..)
    have := nodupM_le (k := k.erase x) h.2 fun y hy => (List.mem_erase_of_ne (fun e : y = x => h.1 (by rw [← e]; exact hy))).2 (hs y (List.mem_cons_of_mem _ hy))
    rw [List.length_erase_of_mem hx] at this
    have := List.length_pos_of_mem hx
    simp only [List.length_cons]; omega
theorem sizeM {k : TypeId} {D : DataW Value} {es : Array MapEntry} (e4 : D = .map ((es.toList.map (Go.WideElems.rg P k heldM)).foldr DataW.insert [])) : es.size = Go.Maps.size D := by
  rw [e4]; simp [Go.Maps.size, length_sorted]
/-- As many entries as there are keys. -/
theorem MapTy.At.small (h : T.At w b n M) (ks : List Int) (hk : ∀ f, FitM f → M f ≠ none → f ∈ ks) : T.At w b ks.length M := by
  obtain ⟨D, h1, h3⟩ := h
  obtain ⟨k1, k2, k3, k4⟩ := keysM T.hk h1
  have hl : Go.Maps.size D ≤ ks.length := by
    rw [← k4]
    refine nodupM_le k1 fun x hx => hk x (k2 x hx) fun e => ?_
    have := (h3 x (k2 x hx)).1
    rw [(k3 x).1 hx, e] at this
    cases this
  refine ⟨D, ?_, h3⟩
  obtain ⟨es, clock, e1, e2, e3, e4⟩ := h1
  exact ⟨es, clock, e1, e2, by rw [sizeM e4]; exact hl, e4⟩
theorem MapTy.At.mono (h : T.At w b n M) {m : Nat} (hm : n ≤ m) : T.At w b m M := by
  obtain ⟨D, ⟨es, clock, e1, e2, e3, e4⟩, h3⟩ := h
  exact ⟨D, ⟨es, clock, e1, e2, Nat.le_trans e3 hm, e4⟩, h3⟩
/-- 'len(m)': as many as the keys on a list without repeats. -/
theorem MapTy.At.len (h : T.At w b n M) {ks : List Int} (hn : ks.Nodup) (hk : ∀ f, f ∈ ks ↔ FitM f ∧ M f ≠ none) (ty : TypeId) : (Builtin.len_ #[T.t] ty #[.map (some b)]).run P w = .ok (.int .i64 ks.length) w := by
  obtain ⟨D, h1, h3⟩ := h
  obtain ⟨k1, k2, k3, k4⟩ := keysM T.hk h1
  have hp : (intKeys D).Perm ks := (List.perm_ext_iff_of_nodup k1 hn).2 fun f => by
    rw [hk f]
    constructor
    · intro hf
      refine ⟨k2 f hf, fun e => ?_⟩
      have := (h3 f (k2 f hf)).1
      rw [(k3 f).1 hf, e] at this
      cases this
    · rintro ⟨hf, hne⟩
      rw [k3 f, (h3 f hf).1]
      cases hm : M f with
      | none => exact absurd hm hne
      | some v => rfl
  rw [← hp.length_eq, k4]
  exact h1.len T.ht ty
end
end Go.Proofs.YtnppnoabhpkmkaaGreat
/- Spaces whose pages are just there, without the program: what each operation answers, and what becomes of the spaces; where there is room. -/
namespace Go.Proofs.YtnppnoabhpkmkaaGreat

/-- A space: its pages, its own words by their numbers; has it exited? -/
structure Sp where
  P : Int → Pg
  W : Int → Int
  g : Bool
/-- Spaces, and objects' words. -/
structure Fl where
  L : List Sp
  O : List (Int → Int)
/-- An operation. -/
structure Rq where
  k : Int
  s : Int
  a : Int
  n : Int
  h : Int
  p : Int
  t : Int
  c : Int
  v : Int
def zSp : Sp := ⟨fun _ => zP, fun _ => 0, false⟩
def isS (F : Fl) (i : Int) : Bool := decide (0 ≤ i) && decide (i < F.L.length) && !(F.L.getD i.toNat zSp).g
def sp (F : Fl) (i : Int) : Sp := F.L.getD i.toNat zSp
def put (F : Fl) (i : Int) (S : Sp) : Fl := { F with L := F.L.set i.toNat S }
def clr (W : Int → Int) (a n : Int) : Int → Int := fun i => if a * 8 ≤ i ∧ i < (a + n) * 8 then 0 else W i
/-- Own words go with their pages. -/
def mvW (W : Int → Int) (a n t : Int) : Int → Int := fun i => if t * 8 ≤ i ∧ i < (t + n) * 8 then W (i - t * 8 + a * 8) else if a * 8 ≤ i ∧ i < (a + n) * 8 then 0 else W i
/-- A copy forgets the words of pages in no area. -/
def cpW (P : Int → Pg) (W : Int → Int) : Int → Int := fun i => if 0 ≤ i ∧ i < 32768 ∧ (P (i / 8)).h = 0 then 0 else W i
/-- Is there a word at an address (10 fault, 2 align: by the numbers of the errors)? -/
def celE (eF eA : Int) (S : Sp) (a : Int) : Int := if a < 0 ∨ 262143 < a then eF else if a % 8 ≠ 0 then eA else if (S.P (a / 64)).h = 0 then eF else 0
def celV (F : Fl) (S : Sp) (a : Int) : Int := if shr (S.P (a / 64)).h then F.O.getD (S.P (a / 64)).o.toNat (fun _ => 0) ((S.P (a / 64)).x * 8 + a / 8 % 8) else S.W (a / 8)
def celS (F : Fl) (i : Int) (a v : Int) : Fl :=
  let S := sp F i
  if shr (S.P (a / 64)).h then { F with O := F.O.modify (S.P (a / 64)).o.toNat fun w j => if j = (S.P (a / 64)).x * 8 + a / 8 % 8 then v else w j }
  else put F i { S with W := fun j => if j = a / 8 then v else S.W j }
/-! Where there is room. -/
/-- How many pages from 4096 - k on are in no area, one behind the other. -/
def runN (P : Int → Pg) : Nat → Nat
  | 0 => 0
  | k + 1 => if (P (4095 - (k : Int))).h ≠ 0 then 0 else runN P k + 1
/-- The least page of the last k from which on there is room (0: none). -/
def bestN (P : Int → Pg) (n sz : Int) : Nat → Int
  | 0 => 0
  | k + 1 => if n ≤ runN P (k + 1) ∧ (4095 - (k : Int)) % sz = 0 then 4095 - (k : Int) else bestN P n sz k
def roomP (P : Int → Pg) (n sz : Int) : Int := bestN P n sz 4095
section
variable {P : Int → Pg} {n sz : Int}
theorem runN_le (P : Int → Pg) (k : Nat) : runN P k ≤ k := by
  induction k with
  | zero => exact Nat.le_refl _
  | succ k ih => unfold runN; split <;> omega
theorem runN_ge {P : Int → Pg} {k m : Nat} : m ≤ runN P k ↔ m ≤ k ∧ ∀ i : Nat, i < m → (P (4096 - (k : Int) + i)).h = 0 := by
  induction k generalizing m with
  | zero =>
    constructor
    · intro h
      have : m = 0 := by have : runN P 0 = 0 := rfl; omega
      exact ⟨by omega, fun i hi => by omega⟩
    · intro h; have : runN P 0 = 0 := rfl; omega
  | succ k ih =>
    cases m with
    | zero => exact ⟨fun _ => ⟨by omega, fun i hi => by omega⟩, fun _ => Nat.zero_le _⟩
    | succ m =>
      have hE : (4096 : Int) - ((k + 1 : Nat) : Int) = 4095 - (k : Int) := by omega
      rw [hE]
      unfold runN
      by_cases c : (P (4095 - (k : Int))).h ≠ 0
      · rw [if_pos c]
        constructor
        · intro h; omega
        · rintro ⟨_, h⟩
          have := h 0 (by omega)
          rw [show (4095 : Int) - (k : Int) + ((0 : Nat) : Int) = 4095 - (k : Int) by omega] at this
          exact absurd this c
      · rw [if_neg c]
        constructor
        · intro h
          obtain ⟨h1, h2⟩ := ih.1 (show m ≤ runN P k by omega)
          refine ⟨by omega, fun i hi => ?_⟩
          cases i with
          | zero =>
            rw [show (4095 : Int) - (k : Int) + ((0 : Nat) : Int) = 4095 - (k : Int) by omega]
            exact Classical.byContradiction c
          | succ i =>
            have := h2 i (by omega)
            rw [show (4096 : Int) - (k : Int) + (i : Int) = 4095 - (k : Int) + ((i + 1 : Nat) : Int) by omega] at this
            exact this
        · rintro ⟨h1, h2⟩
          have := ih.2 ⟨show m ≤ k by omega, fun i hi => by
            have := h2 (i + 1) (by omega)
            rw [show (4095 : Int) - (k : Int) + ((i + 1 : Nat) : Int) = 4096 - (k : Int) + (i : Int) by omega] at this
            exact this⟩
          omega
/-- Is there room for n pages at p? -/
def rmB (P : Int → Pg) (n sz p : Int) : Prop := p % sz = 0 ∧ p + n ≤ 4096 ∧ ∀ i : Int, p ≤ i → i < p + n → (P i).h = 0
theorem run_room (hn : 0 ≤ n) {k : Nat} : n ≤ runN P k ↔ 4096 - (k : Int) + n ≤ 4096 ∧ ∀ i : Int, 4096 - (k : Int) ≤ i → i < 4096 - (k : Int) + n → (P i).h = 0 := by
  obtain ⟨m, rfl⟩ : ∃ m : Nat, n = m := ⟨n.toNat, by omega⟩
  rw [show ((m : Int) ≤ (runN P k : Int)) ↔ m ≤ runN P k by omega, runN_ge]
  constructor
  · rintro ⟨h1, h2⟩
    refine ⟨by omega, fun i h3 h4 => ?_⟩
    have := h2 (i - (4096 - (k : Int))).toNat (by omega)
    rwa [show (4096 : Int) - (k : Int) + ((i - (4096 - (k : Int))).toNat : Int) = i by omega] at this
  · rintro ⟨h1, h2⟩
    exact ⟨by omega, fun i hi => h2 _ (by omega) (by omega)⟩
theorem bestN_spec (hn : 0 ≤ n) (k : Nat) (hk : k ≤ 4095) :
    (bestN P n sz k = 0 ∧ ∀ p : Int, 4096 - (k : Int) ≤ p → p < 4096 → ¬ rmB P n sz p) ∨
    (4096 - (k : Int) ≤ bestN P n sz k ∧ bestN P n sz k < 4096 ∧ rmB P n sz (bestN P n sz k) ∧ ∀ p : Int, 4096 - (k : Int) ≤ p → p < bestN P n sz k → ¬ rmB P n sz p) := by
  induction k with
  | zero => exact Or.inl ⟨rfl, fun p h1 h2 => by omega⟩
  | succ k ih =>
    have hE : (4096 : Int) - ((k + 1 : Nat) : Int) = 4095 - (k : Int) := by omega
    have hr := run_room (P := P) hn (k := k + 1)
    rw [hE] at hr ⊢
    unfold bestN
    by_cases c : n ≤ runN P (k + 1) ∧ (4095 - (k : Int)) % sz = 0
    · rw [if_pos c]
      obtain ⟨h1, h2⟩ := hr.1 c.1
      exact Or.inr ⟨by omega, by omega, ⟨c.2, h1, h2⟩, fun p h3 h4 => by omega⟩
    · rw [if_neg c]
      have hno : ¬ rmB P n sz (4095 - (k : Int)) := fun e => c ⟨hr.2 ⟨e.2.1, e.2.2⟩, e.1⟩
      have hp : ∀ p : Int, 4095 - (k : Int) ≤ p → p = 4095 - (k : Int) ∨ 4096 - (k : Int) ≤ p := fun p h => by omega
      rcases ih (by omega) with ⟨e, h⟩ | ⟨h1, h2, h3, h4⟩
      · refine Or.inl ⟨e, fun p q1 q2 => ?_⟩
        rcases hp p q1 with rfl | q
        · exact hno
        · exact h p q q2
      · refine Or.inr ⟨by omega, h2, h3, fun p q1 q2 => ?_⟩
        rcases hp p q1 with rfl | q
        · exact hno
        · exact h4 p q q2
/-- The least page that is even, and from which on n pages are in no area. -/
theorem room_spec (hn : 0 ≤ n) : (roomP P n sz = 0 ∧ ∀ p : Int, 1 ≤ p → p < 4096 → ¬ rmB P n sz p) ∨ (1 ≤ roomP P n sz ∧ roomP P n sz < 4096 ∧ rmB P n sz (roomP P n sz) ∧ ∀ p : Int, 1 ≤ p → p < roomP P n sz → ¬ rmB P n sz p) :=
  bestN_spec hn 4095 (Nat.le_refl _)
end
end Go.Proofs.YtnppnoabhpkmkaaGreat
