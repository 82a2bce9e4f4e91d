/- The program's spaces as they lie in memory. -/
import Derived.Test.YtnppnoabhpkmkaaGreatMg13
import Derived.Test.YtnppnoabhpkmkaaGreatMg14
namespace Go.Proofs.YtnppnoabhpkmkaaGreat
open Go.RowKit
/-- Pointers to spaces; nil: it has exited. -/
def EPs : Enc Tryz.prog (Option Nat) where
  enc x := [.pointer (x.map fun b => ⟨b, 0, none⟩)]
  sz := 1
  el := 64
  sl := 70
  zero := .pointer none
  bytes := 8
  len _ := rfl
  one a u h := by
    simp only [List.mem_cons, List.not_mem_nil, or_false] at h
    rcases h with rfl
    rfl
  pos := by decide
  zsz := rfl
  und := by kernel_rfl
  info := by kernel_rfl
  small := by decide
/-- A space's blocks: its struct, areas, own words, objects; its areas' list. -/
structure PsB where
  sb : Nat
  ab : Nat
  mb : Nat
  ob : Nat
  A : Option Addr
  c : Nat
  l : List Ar
/-- The map of a space's objects. -/
def ObjAt (w : World) (b : Nat) (P : Int → Pg) (LO : List Nat) : Prop := ∃ M, TN.At w b LO.length M ∧ (∀ i, FitM i → M i ≠ none → ∃ k : Nat, i = k ∧ ∃ h : k < LO.length, M i = some (.map (some LO[k]))) ∧ ∀ i, shr (P i).h → M (P i).o ≠ none
structure PsAt (B : Nat) (w : World) (s : PsB) (S : Sp) (LO : List Nat) : Prop where
  top : Lrow w s.sb 90 [.pointer (some ⟨s.ab, 0, none⟩), .map (some s.mb), .map (some s.ob)]
  ars : AtX B w s.ab s.A s.c s.l S.P
  own : MemAt w s.mb S.W
  obj : ObjAt w s.ob S.P LO
  lo : B ≤ s.sb ∧ B ≤ s.mb ∧ B ≤ s.ob
def MinePs (s : PsB) (k : Nat) : Prop := k = s.sb ∨ k = s.ab ∨ k = s.mb ∨ k = s.ob
section
variable {w w' : World} {B b : Nat} {s : PsB} {S : Sp} {LO ex : List Nat} {P : Int → Pg}
theorem ObjAt.heap (h : ObjAt w b P LO) (hk : w'.heap[b]? = w.heap[b]?) : ObjAt w' b P LO := by
  obtain ⟨M, h1, h2⟩ := h
  exact ⟨M, h1.heap hk, h2⟩
theorem ObjAt.lt (h : ObjAt w b P LO) : b < w.heap.size := by obtain ⟨M, h1, _⟩ := h; exact h1.lt
theorem ObjAt.call (h : ObjAt w b P LO) (hb : Below w.heap.size w w') : ObjAt w' b P LO := h.heap (hb.block b h.lt)
theorem ObjAt.apart (h : ObjAt w b P LO) {g : Nat} {t : TypeId} {vs : List Value} (r : Lrow w g t vs) : g ≠ b := by obtain ⟨M, h1, _⟩ := h; exact h1.apart r
theorem ObjAt.more (h : ObjAt w b P LO) (ex : List Nat) : ObjAt w b P (LO ++ ex) := by
  obtain ⟨M, h1, h2, h3⟩ := h
  refine ⟨M, h1.mono (by rw [List.length_append]; omega), fun i hi hm => ?_, h3⟩
  obtain ⟨k, e1, hk, e2⟩ := h2 i hi hm
  exact ⟨k, e1, by rw [List.length_append]; omega, by rw [e2, List.getElem_append_left hk]⟩
theorem ObjAt.pages {Q : Int → Pg} (h : ObjAt w b P LO) (hq : ∀ i, shr (Q i).h → ∃ j, shr (P j).h ∧ (P j).o = (Q i).o) : ObjAt w b Q LO := by
  obtain ⟨M, h1, h2, h3⟩ := h
  refine ⟨M, h1, h2, fun i hi => ?_⟩
  obtain ⟨j, hj, e⟩ := hq i hi
  rw [← e]; exact h3 j hj
theorem AtX.keep {xa c : Nat} {A : Option Addr} {l : List Ar} (h : AtX B w xa A c l P) (hs : w.heap.size ≤ w'.heap.size) (hk : w'.heap[xa]? = w.heap[xa]?) (ha : ∀ k vs, Lrow w k 93 vs → w'.heap[k]? = w.heap[k]?) : AtX B w' xa A c l P :=
  ⟨hk.trans h.top, h.own.heap fun g e => by obtain ⟨vs, r, _⟩ := h.own.block e; exact ha g vs r, h.wh, h.lo, Nat.le_trans h.lw hs⟩
theorem PsAt.lt (h : PsAt B w s S LO) : ∀ k, MinePs s k → k < w.heap.size := by
  rintro k (rfl | rfl | rfl | rfl)
  · exact h.top.lt
  · exact h.ars.top.lt
  · exact h.own.lt
  · exact h.obj.lt
theorem PsAt.low (h : PsAt B w s S LO) : ∀ k, MinePs s k → B ≤ k := by
  rintro k (rfl | rfl | rfl | rfl)
  · exact h.lo.1
  · exact h.ars.lo
  · exact h.lo.2.1
  · exact h.lo.2.2
theorem PsAt.keep (h : PsAt B w s S LO) (hs : w.heap.size ≤ w'.heap.size) (hk : ∀ k, MinePs s k → w'.heap[k]? = w.heap[k]?) (ha : ∀ k vs, Lrow w k 93 vs → w'.heap[k]? = w.heap[k]?) : PsAt B w' s S LO :=
  ⟨(hk _ (Or.inl rfl)).trans h.top, h.ars.keep hs (hk _ (Or.inr (Or.inl rfl))) ha, h.own.heap (hk _ (Or.inr (Or.inr (Or.inl rfl)))), h.obj.heap (hk _ (Or.inr (Or.inr (Or.inr rfl)))), h.lo⟩
theorem PsAt.call (h : PsAt B w s S LO) (hb : Below w.heap.size w w') : PsAt B w' s S LO := h.keep hb.size (fun k hk => hb.block k (h.lt k hk)) fun k _ r => hb.block k r.lt
theorem PsAt.more (h : PsAt B w s S LO) (ex : List Nat) : PsAt B w s S (LO ++ ex) := ⟨h.top, h.ars, h.own, h.obj.more ex, h.lo⟩
end
/-- All spaces and objects. -/
structure PfT where
  s : Nat
  vl : Value
  LS : List (Option PsB)
  LO : List Nat
structure PfAt (B : Nat) (w : World) (T : PfT) (F : Fl) : Prop where
  top : Lrow w T.s 72 [T.vl, .int .i64 F.O.length]
  ls : EPs.Own B w T.vl (T.LS.map fun o => o.map PsB.sb)
  nl : T.LS.length = F.L.length
  no : T.LO.length = F.O.length
  sps : ∀ (i : Nat) (s : PsB), T.LS[i]? = some (some s) → (F.L.getD i zSp).g = false ∧ PsAt B w s (F.L.getD i zSp) T.LO
  gone : ∀ i : Nat, T.LS[i]? = some none → (F.L.getD i zSp).g = true
  obs : ∀ k (h : k < T.LO.length), MemAt w T.LO[k] (F.O.getD k (fun _ => 0)) ∧ B ≤ T.LO[k]
  dA : ∀ (i j : Nat) (a b : PsB), T.LS[i]? = some (some a) → T.LS[j]? = some (some b) → i ≠ j → a.ab ≠ b.ab ∧ a.mb ≠ b.mb ∧ a.mb ≠ b.ob ∧ a.ob ≠ b.ob
  dM : ∀ (i : Nat) (a : PsB), T.LS[i]? = some (some a) → a.mb ≠ a.ob ∧ a.mb ∉ T.LO ∧ a.ob ∉ T.LO
  dO : T.LO.Nodup
  lo : B ≤ T.s
def MineP (T : PfT) (k : Nat) : Prop := k = T.s ∨ T.vl.ownBlock = some k ∨ (∃ (i : Nat) (a : PsB), T.LS[i]? = some (some a) ∧ MinePs a k) ∨ k ∈ T.LO
/-- What a call has done. -/
def DidV (B : Nat) (w : World) (T : PfT) (F : Fl) (w' : World) : Prop :=
  ∃ T', T'.s = T.s ∧ PfAt B w' T' F ∧ Foot (MineP T) w w' ∧ ∀ k, MineP T' k → MineP T k ∨ w.heap.size ≤ k
section
variable {w w' : World} {B : Nat} {T : PfT} {F F' : Fl} {s s' : PsB} {S' : Sp}
theorem PfAt.lt (h : PfAt B w T F) : ∀ k, MineP T k → k < w.heap.size := by
  rintro k (rfl | e | ⟨i, a, hi, hk⟩ | hk)
  · exact h.top.lt
  · obtain ⟨vs, r, _⟩ := h.ls.block e; exact r.lt
  · exact (h.sps i a hi).2.lt k hk
  · obtain ⟨i, hi, rfl⟩ := List.getElem_of_mem hk
    exact (h.obs i hi).1.lt
theorem PfAt.low (h : PfAt B w T F) : ∀ k, MineP T k → B ≤ k := by
  rintro k (rfl | e | ⟨i, a, hi, hk⟩ | hk)
  · exact h.lo
  · obtain ⟨vs, _, r⟩ := h.ls.block e; exact r
  · exact (h.sps i a hi).2.low k hk
  · obtain ⟨i, hi, rfl⟩ := List.getElem_of_mem hk
    exact (h.obs i hi).2
theorem PfAt.lw (h : PfAt B w T F) : B ≤ w.heap.size := by have := h.lo; have := h.top.lt; omega
theorem PfAt.keep (h : PfAt B w T F) (hs : w.heap.size ≤ w'.heap.size) (hk : ∀ k, MineP T k → w'.heap[k]? = w.heap[k]?) (ha : ∀ k vs, Lrow w k 93 vs → w'.heap[k]? = w.heap[k]?) : PfAt B w' T F :=
  ⟨(hk _ (Or.inl rfl)).trans h.top, h.ls.heap (fun g e => hk g (Or.inr (Or.inl e))), h.nl, h.no,
   fun i a hi => ⟨(h.sps i a hi).1, (h.sps i a hi).2.keep hs (fun k e => hk k (Or.inr (Or.inr (Or.inl ⟨i, a, hi, e⟩)))) ha⟩, h.gone,
   fun k hl => ⟨(h.obs k hl).1.heap (hk _ (Or.inr (Or.inr (Or.inr (List.getElem_mem hl))))), (h.obs k hl).2⟩, h.dA, h.dM, h.dO, h.lo⟩
theorem PfAt.call (h : PfAt B w T F) (hb : Below w.heap.size w w') : PfAt B w' T F := h.keep hb.size (fun k hk => hb.block k (h.lt k hk)) fun k _ r => hb.block k r.lt
theorem PfAt.did (h : PfAt B w T F) (hb : Below w.heap.size w w') : DidV B w T F w' := ⟨T, rfl, h.call hb, Foot.of_below hb, fun _ e => Or.inl e⟩
theorem DidV.pre {W : World} (h : Below W.heap.size W w) (d : DidV B w T F w') : DidV B W T F w' := by
  obtain ⟨T', d0, d1, d2, d3⟩ := d
  exact ⟨T', d0, d1, (Foot.of_below (X := MineP T) h).trans d2 (fun _ e _ => e), fun k e => (d3 k e).imp id fun e => Nat.le_trans h.size e⟩
theorem DidV.post (d : DidV B w T F w') {w'' : World} (h : Below w'.heap.size w' w'') : DidV B w T F w'' := by
  obtain ⟨T', d0, d1, d2, d3⟩ := d
  exact ⟨T', d0, d1.call h, d2.trans (Foot.of_below (X := MineP T) h) (fun _ e _ => e), d3⟩
theorem PfAt.c0 (h : PfAt B w T F) : w.cell? ⟨T.s, 0, none⟩ = some T.vl := h.top.cell 0
theorem PfAt.c1 (h : PfAt B w T F) : w.cell? ⟨T.s, 1, none⟩ = some (.int .i64 F.O.length) := h.top.cell 1
/-- 'f.spaces' as a slice, and the pointer at a place. -/
theorem PfAt.ptr (h : PfAt B w T F) {A : Option Addr} {n c : Nat} (hv : T.vl = .slice A n c) : n = F.L.length ∧ ∀ i : Nat, i < F.L.length → ∃ g o, A = some ⟨g, 0, none⟩ ∧ T.LS[i]? = some o ∧ w.cell? ⟨g, i, none⟩ = some (.pointer (o.map fun s => ⟨s.sb, 0, none⟩)) := by
  have ho := h.ls
  rw [hv] at ho
  have hn : n = (T.LS.map fun o => o.map PsB.sb).length := by obtain ⟨_, _, e⟩ := ho.form; injection e
  rw [List.length_map, h.nl] at hn
  refine ⟨hn, fun i hi => ?_⟩
  have hi2 : i < T.LS.length := by rw [h.nl]; exact hi
  obtain ⟨g, e, _, _, _, hat⟩ := ho.some_ (by rw [List.length_map]; omega)
  have h0 := hat i (by rw [List.length_map]; exact hi2) 0 (by decide)
  rw [show i * EPs.sz + 0 = i from by show i * 1 + 0 = i; omega, List.getElem_map] at h0
  refine ⟨g, _, e, List.getElem?_eq_getElem hi2, h0.trans ?_⟩
  show some (Value.pointer ((Option.map PsB.sb T.LS[i]).map fun b => ⟨b, 0, none⟩)) = _
  rw [Option.map_map]
  rfl
theorem isS_at (h : PfAt B w T F) {i : Nat} {o : Option PsB} (e : T.LS[i]? = some o) : isS F i = o.isSome := by
  have hi : i < F.L.length := by rw [← h.nl]; exact (List.getElem?_eq_some_iff.1 e).1
  unfold isS
  rw [decide_eq_true (show (0 : Int) ≤ i by omega), decide_eq_true (show (i : Int) < F.L.length by omega), Int.toNat_natCast]
  cases o with
  | none => rw [h.gone i e]; rfl
  | some s => rw [(h.sps i s e).1]; rfl
/-- The space of a number. -/
theorem PfAt.space (h : PfAt B w T F) {n : Int} (e : isS F n = true) : ∃ (j : Nat) (s : PsB), n = j ∧ j < F.L.length ∧ T.LS[j]? = some (some s) ∧ (sp F n).g = false ∧ PsAt B w s (sp F n) T.LO := by
  unfold isS at e
  simp only [Bool.and_eq_true, decide_eq_true_eq, Bool.not_eq_true'] at e
  obtain ⟨⟨h0, h1⟩, h2⟩ := e
  obtain ⟨j, rfl⟩ : ∃ j : Nat, n = j := ⟨n.toNat, by omega⟩
  rw [Int.toNat_natCast] at h2
  have hj : j < T.LS.length := by rw [h.nl]; omega
  have hl := List.getElem?_eq_getElem hj
  cases ho : T.LS[j] with
  | none => rw [ho] at hl; rw [h.gone j hl] at h2; cases h2
  | some s =>
    rw [ho] at hl
    obtain ⟨k1, k2⟩ := h.sps j s hl
    exact ⟨j, s, rfl, by omega, hl, by unfold sp; rw [Int.toNat_natCast]; exact k1, by unfold sp; rw [Int.toNat_natCast]; exact k2⟩
end
end Go.Proofs.YtnppnoabhpkmkaaGreat
/- The program's spaces: one space, an object has turned; a space more; one has gone. -/
namespace Go.Proofs.YtnppnoabhpkmkaaGreat
open Go.RowKit
theorem getD_setF {α : Type} {L : List α} {j i : Nat} (z : α) {x : α} (hj : j < L.length) : (L.set j x).getD i z = if i = j then x else L.getD i z := by
  rw [List.getD_eq_getElem?_getD, List.getD_eq_getElem?_getD, List.getElem?_set]
  by_cases e : j = i
  · subst e; rw [if_pos rfl, if_pos rfl, if_pos hj]; rfl
  · rw [if_neg e, if_neg (fun k => e k.symm)]
theorem getD_app {α : Type} {L : List α} {i : Nat} (z x : α) (hi : i ≤ L.length) : (L ++ [x]).getD i z = if i = L.length then x else L.getD i z := by
  rw [List.getD_eq_getElem?_getD, List.getD_eq_getElem?_getD]
  by_cases e : i = L.length
  · subst e; rw [if_pos rfl, List.getElem?_append_right (Nat.le_refl _), Nat.sub_self]; rfl
  · rw [if_neg e, List.getElem?_append_left (by omega)]
section
variable {w w' : World} {B : Nat} {T : PfT} {F F' : Fl} {s s' : PsB} {S' : Sp}
theorem set_get {α : Type} {L : List (Option α)} {j i : Nat} {x : Option α} {a : α} (h : (L.set j x)[i]? = some (some a)) : (i = j ∧ x = some a) ∨ (i ≠ j ∧ L[i]? = some (some a)) := by
  rw [List.getElem?_set] at h
  by_cases e : j = i
  · subst e
    rw [if_pos rfl] at h
    split at h
    · injection h with h; exact Or.inl ⟨rfl, h⟩
    · cases h
  · rw [if_neg e] at h; exact Or.inr ⟨fun k => e k.symm, h⟩
/-- One space has turned; there may be a new object. -/
theorem PfAt.turn (h : PfAt B w T F) {j : Nat} (hs : T.LS[j]? = some (some s)) (e1 : s'.sb = s.sb) (e2 : s'.ab = s.ab) (e3 : s'.mb = s.mb) (e4 : s'.ob = s.ob) (ex : List Nat) (hex : ∀ b ∈ ex, w.heap.size ≤ b ∧ MemAt w' b fun _ => 0) (hnd : ex.Nodup)
    (ht : Lrow w' T.s 72 [T.vl, .int .i64 (F.O.length + ex.length : Nat)]) (hf : Foot (fun k => k = T.s ∨ k = s.ab ∨ k = s.mb ∨ k = s.ob) w w') (hS : PsAt B w' s' S' (T.LO ++ ex)) (hg : S'.g = false) :
    DidV B w T ⟨F.L.set j S', F.O ++ ex.map fun _ _ => 0⟩ w' := by
  obtain ⟨gS, hsp⟩ := h.sps j s hs
  have hjl := (List.getElem?_eq_some_iff.1 hs).1
  have hjF : j < F.L.length := by rw [← h.nl]; exact hjl
  have kk : ∀ k, k < w.heap.size → k ≠ T.s → k ≠ s.ab → k ≠ s.mb → k ≠ s.ob → w'.heap[k]? = w.heap[k]? := fun k hk h1 h2 h3 h4 => hf.keep k hk (fun e => by rcases e with e | e | e | e; exact h1 e; exact h2 e; exact h3 e; exact h4 e)
  have kr : ∀ {g : Nat} {t : TypeId} {vs : List Value}, Lrow w g t vs → t ≠ 72 → t ≠ 106 → w'.heap[g]? = w.heap[g]? := fun {g t vs} r h1 h2 => kk g r.lt (r.apart h.top h1) (r.apart hsp.ars.top h2) (hsp.own.apart r) (hsp.obj.apart r)
  have hm : MinePs s' = MinePs s := by unfold MinePs; rw [e1, e2, e3, e4]
  refine ⟨⟨T.s, T.vl, T.LS.set j (some s'), T.LO ++ ex⟩, rfl, ⟨?_, ?_, ?_, ?_, fun i a hi => ?_, fun i hi => ?_, fun k hk => ?_, fun i k a b hi hk hne => ?_, fun i a hi => ?_, ?_, h.lo⟩, ?_, ?_⟩
  · show Lrow w' T.s _ [T.vl, .int .i64 ((F.O ++ _).length : Nat)]
    rw [List.length_append, List.length_map]; exact ht
  · show EPs.Own B w' T.vl ((T.LS.set j (some s')).map fun o => o.map PsB.sb)
    have e : (T.LS.set j (some s')).map (fun o => o.map PsB.sb) = T.LS.map fun o => o.map PsB.sb := by
      rw [List.map_set]
      apply List.ext_getElem?
      intro i
      rw [List.getElem?_set, List.getElem?_map]
      by_cases c : j = i
      · subst c; rw [if_pos rfl, hs, List.length_map, if_pos hjl]; show _ = some (some s.sb); rw [← e1]; rfl
      · rw [if_neg c]
    rw [e]
    refine h.ls.heap fun g e => ?_
    obtain ⟨vs, r, _⟩ := h.ls.block e
    exact kr r (by decide) (by decide)
  · show (T.LS.set j _).length = (F.L.set _ _).length
    rw [List.length_set, List.length_set]; exact h.nl
  · show (T.LO ++ ex).length = (F.O ++ _).length
    rw [List.length_append, List.length_append, List.length_map, h.no]
  · show ((F.L.set j S').getD i zSp).g = false ∧ PsAt B w' a ((F.L.set j S').getD i zSp) (T.LO ++ ex)
    rw [getD_setF _ hjF]
    rcases set_get hi with ⟨rfl, e⟩ | ⟨hne, hi⟩
    · injection e with e; subst e
      rw [if_pos rfl]; exact ⟨hg, hS⟩
    · rw [if_neg hne]
      obtain ⟨g2, h2⟩ := h.sps i a hi
      obtain ⟨n1, n2, n3, n4⟩ := h.dA i j a s hi hs hne
      obtain ⟨-, -, m3, -⟩ := h.dA j i s a hs hi (fun e => hne e.symm)
      refine ⟨g2, (h2.keep hf.size (fun k hk => ?_) fun k vs r => kr r (by decide) (by decide)).more ex⟩
      rcases hk with rfl | rfl | rfl | rfl
      · exact kr h2.top (by decide) (by decide)
      · exact kk _ h2.ars.top.lt (h2.ars.top.apart h.top (by decide)) n1 (hsp.own.apart h2.ars.top) (hsp.obj.apart h2.ars.top)
      · exact kk _ h2.own.lt (fun e => h2.own.apart h.top e.symm) (fun e => h2.own.apart hsp.ars.top e.symm) n2 n3
      · exact kk _ h2.obj.lt (fun e => h2.obj.apart h.top e.symm) (fun e => h2.obj.apart hsp.ars.top e.symm) (fun e => m3 e.symm) n4
  · show ((F.L.set j S').getD i zSp).g = true
    have hi : (T.LS.set j (some s'))[i]? = some none := hi
    rw [List.getElem?_set] at hi
    rw [getD_setF _ hjF]
    by_cases c : j = i
    · rw [if_pos c] at hi
      split at hi <;> cases hi
    · rw [if_neg c] at hi
      rw [if_neg (fun e => c e.symm)]; exact h.gone i hi
  · have hk : k < (T.LO ++ ex).length := hk
    show MemAt w' (T.LO ++ ex)[k] ((F.O ++ ex.map fun _ _ => 0).getD k fun _ => 0) ∧ B ≤ (T.LO ++ ex)[k]
    rw [List.getD_eq_getElem?_getD]
    by_cases c : k < T.LO.length
    · rw [List.getElem_append_left c, List.getElem?_append_left (by rw [← h.no]; exact c), ← List.getD_eq_getElem?_getD]
      obtain ⟨h1, h2⟩ := h.obs k c
      obtain ⟨-, d2, d3⟩ := h.dM j s hs
      have hmem := List.getElem_mem c
      exact ⟨h1.heap (kk _ h1.lt (fun e => h1.apart h.top e.symm) (fun e => h1.apart hsp.ars.top e.symm) (fun e => d2 (e ▸ hmem)) (fun e => d3 (e ▸ hmem))), h2⟩
    · have c2 : k - T.LO.length < ex.length := by rw [List.length_append] at hk; omega
      rw [List.getElem_append_right (by omega), List.getElem?_append_right (by rw [← h.no]; omega), ← h.no, List.getElem?_map, List.getElem?_eq_getElem c2]
      obtain ⟨h1, h2⟩ := hex _ (List.getElem_mem c2)
      exact ⟨h2, Nat.le_trans h.lw h1⟩
  · rcases set_get hi with ⟨f1, e⟩ | ⟨c1, hi'⟩ <;> rcases set_get hk with ⟨f2, e'⟩ | ⟨c2, hk'⟩
    · exact absurd (f1.trans f2.symm) hne
    · injection e with e; subst e
      rw [e2, e3, e4]; exact h.dA i k s b (by rw [f1]; exact hs) hk' hne
    · injection e' with e'; subst e'
      rw [e2, e3, e4]; exact h.dA i k a s hi' (by rw [f2]; exact hs) hne
    · exact h.dA i k a b hi' hk' hne
  · show a.mb ≠ a.ob ∧ a.mb ∉ T.LO ++ ex ∧ a.ob ∉ T.LO ++ ex
    have hcase : ∃ a', T.LS[i]? = some (some a') ∧ a.mb = a'.mb ∧ a.ob = a'.ob := by
      rcases set_get hi with ⟨rfl, e⟩ | ⟨c1, hi⟩
      · injection e with e; subst e; exact ⟨s, hs, e3, e4⟩
      · exact ⟨a, hi, rfl, rfl⟩
    obtain ⟨a', ha', q1, q2⟩ := hcase
    obtain ⟨d1, d2, d3⟩ := h.dM i a' ha'
    have hl := (h.sps i a' ha').2
    rw [q1, q2, List.mem_append, List.mem_append]
    refine ⟨d1, fun e => ?_, fun e => ?_⟩
    · rcases e with e | e
      · exact d2 e
      · have := (hex _ e).1; have := hl.own.lt; omega
    · rcases e with e | e
      · exact d3 e
      · have := (hex _ e).1; have := hl.obj.lt; omega
  · show (T.LO ++ ex).Nodup
    refine List.nodup_append.2 ⟨h.dO, hnd, fun a ha b hb e => ?_⟩
    obtain ⟨i, hi, rfl⟩ := List.getElem_of_mem ha
    have := (h.obs i hi).1.lt
    have := (hex _ hb).1
    omega
  · refine hf.mono fun k hk => ?_
    rcases hk with rfl | e
    · exact Or.inl rfl
    · exact Or.inr (Or.inr (Or.inl ⟨j, s, hs, Or.inr e⟩))
  · rintro k (rfl | e | ⟨i, a, hi, hk⟩ | hk)
    · exact Or.inl (Or.inl rfl)
    · exact Or.inl (Or.inr (Or.inl e))
    · rcases set_get hi with ⟨rfl, e⟩ | ⟨_, hi⟩
      · injection e with e; subst e
        rw [hm] at hk
        exact Or.inl (Or.inr (Or.inr (Or.inl ⟨i, s, hs, hk⟩)))
      · exact Or.inl (Or.inr (Or.inr (Or.inl ⟨i, a, hi, hk⟩)))
    · rcases List.mem_append.1 hk with hk | hk
      · exact Or.inl (Or.inr (Or.inr (Or.inr hk)))
      · exact Or.inr (hex _ hk).1
/-- The same, with no new object. -/
theorem PfAt.turn0 (h : PfAt B w T F) {j : Nat} (hs : T.LS[j]? = some (some s)) (e1 : s'.sb = s.sb) (e2 : s'.ab = s.ab) (e3 : s'.mb = s.mb) (e4 : s'.ob = s.ob) (hf : Foot (fun k => k = s.ab ∨ k = s.mb ∨ k = s.ob) w w') (hS : PsAt B w' s' S' T.LO) (hg : S'.g = false) :
    DidV B w T (put F j S') w' := by
  have hsp := (h.sps j s hs).2
  have := h.turn hs e1 e2 e3 e4 [] (fun b hb => by cases hb) List.nodup_nil ((hf.keep T.s h.top.lt (fun e => by
    rcases e with e | e | e
    · exact h.top.apart hsp.ars.top (by decide) e
    · exact hsp.own.apart h.top e
    · exact hsp.obj.apart h.top e)).trans h.top) (hf.mono fun k hk => Or.inr hk) (by rw [List.append_nil]; exact hS) hg
  rw [List.map_nil, List.append_nil] at this
  unfold put
  rw [Int.toNat_natCast]
  exact this
/-- The words of one object have turned. -/
theorem PfAt.putO (h : PfAt B w T F) {o : Nat} (ho : o < T.LO.length) {W : Int → Int} (hg : w.grownBy w' (some T.LO[o])) (hW : MemAt w' T.LO[o] W) : DidV B w T ⟨F.L, F.O.set o W⟩ w' := by
  have hF : o < F.O.length := by rw [← h.no]; exact ho
  have hmo := (h.obs o ho).1
  have kk : ∀ k, k < w.heap.size → k ≠ T.LO[o] → w'.heap[k]? = w.heap[k]? := fun k hk hne => hg.block k hk (by intro e; injection e with e; exact hne e)
  have kr : ∀ {g : Nat} {t : TypeId} {vs : List Value}, Lrow w g t vs → w'.heap[g]? = w.heap[g]? := fun {g t vs} r => kk g r.lt (hmo.apart r)
  have hmem := List.getElem_mem ho
  refine ⟨T, rfl, ⟨?_, h.ls.heap fun g e => ?_, h.nl, ?_, fun i a hi => ⟨(h.sps i a hi).1, ?_⟩, h.gone, fun k hk => ?_, h.dA, h.dM, h.dO, h.lo⟩, Foot.grown hg (Or.inr (Or.inr (Or.inr hmem))), fun _ e => Or.inl e⟩
  · show Lrow w' T.s _ [T.vl, .int .i64 ((F.O.set o W).length : Nat)]
    rw [List.length_set]; exact (kr h.top).trans h.top
  · obtain ⟨vs, r, _⟩ := h.ls.block e
    exact kr r
  · show _ = (F.O.set o W).length
    rw [List.length_set]; exact h.no
  · have h2 := (h.sps i a hi).2
    obtain ⟨-, d2, d3⟩ := h.dM i a hi
    refine h2.keep hg.size (fun k hk => ?_) fun k vs r => kr r
    rcases hk with rfl | rfl | rfl | rfl
    · exact kr h2.top
    · exact kr h2.ars.top
    · exact kk _ h2.own.lt (fun e => d2 (e ▸ hmem))
    · exact kk _ h2.obj.lt (fun e => d3 (e ▸ hmem))
  · show MemAt w' T.LO[k] ((F.O.set o W).getD k fun _ => 0) ∧ _
    rw [getD_setF _ hF]
    by_cases c : k = o
    · subst c; rw [if_pos rfl]; exact ⟨hW, (h.obs k hk).2⟩
    · rw [if_neg c]
      have hk2 := h.obs k hk
      refine ⟨hk2.1.heap (kk _ hk2.1.lt fun e => ?_), hk2.2⟩
      rcases Nat.lt_trichotomy k o with c2 | c2 | c2
      · exact List.pairwise_iff_getElem.1 h.dO k o hk ho c2 e
      · exact c c2
      · exact List.pairwise_iff_getElem.1 h.dO o k ho hk c2 e.symm
end
end Go.Proofs.YtnppnoabhpkmkaaGreat
