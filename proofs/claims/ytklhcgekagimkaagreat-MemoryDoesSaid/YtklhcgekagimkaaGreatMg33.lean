/- A memory's state, without the program: what each call answers, and what it makes of it. -/
import Derived.Test.YtklhcgekagimkaaGreatMg02
import Derived.Test.YtklhcgekagimkaaGreatMg26
import Derived.Test.YtklhcgekagimkaaGreatMg27
import Derived.Test.YtklhcgekagimkaaGreatMg32
namespace Go.Proofs.YtklhcgekagimkaaGreat
open Go.RowKit

/-- Which frames are free, the sections' kinds, what each frame is, the words. -/
structure Me where
  F : List Bool
  S : List Nat
  I : List Int
  W : List Int
/-- A memory of n frames, in order: a frame is free just if it may be given. -/
structure MeOk (n : Nat) (M : Me) : Prop where
  n8 : 8 ≤ n
  hi : n ≤ 1024
  f : M.F.length = n
  s : M.S.length = (n + 7) / 8
  kin : ∀ x ∈ M.S, x ≤ 3
  i : M.I.length = n
  is : ∀ x, x ∈ M.I → 0 ≤ x ∧ x ≤ 5
  fit : ∀ j, j < n → (M.F[j]? = some true ↔ M.I[j]? = some 0)
/-- Is it a state of what is given? -/
def isU (x : Int) : Bool := decide (1 ≤ x ∧ x ≤ 5)
theorem isU_iff {x : Int} : isU x = true ↔ 1 ≤ x ∧ x ≤ 5 := by unfold isU; simp
/-- How many are spare. -/
def spN (M : Me) (mk : Nat) : Nat := frO M.F M.S 0 + frO M.F M.S 1 + frO M.F M.S 2 - mk
/-- A block is given. -/
def gvM (M : Me) (F : List Bool) (S : List Nat) (f k : Nat) (x : Int) : Me := ⟨F, S, putF M.I f (2 ^ k) x, zeL M.W f ((2 ^ k : Nat) : Int)⟩
def blE (M : Me) (mk : Nat) (o kd x : Int) : Int := if okB o kd = false ∨ isU x = false then 2 else if (spN M mk : Int) < ((2 ^ o.toNat : Nat) : Int) then 8 else ktE M.F M.S o kd
def blV (M : Me) (mk : Nat) (o kd x : Int) : Int := if blE M mk o kd x = 0 then ktV M.F M.S o kd else 0
def blM (M : Me) (mk : Nat) (o kd x : Int) : Me := if blE M mk o kd x = 0 then gvM M (ktF M.F M.S o kd) (ktS M.F M.S o kd) (ktV M.F M.S o kd).toNat o.toNat x else M
def atE (M : Me) (f o x : Int) : Int := if isU x = false then 2 else chE M.F f o false
def atM (M : Me) (f o x : Int) : Me := if atE M f o x = 0 then gvM M (chL M.F f o false) M.S f.toNat o.toNat x else M
def drE (M : Me) (f o : Int) : Int := chE M.F f o true
def drM (M : Me) (f o : Int) : Me := if drE M f o = 0 then ⟨chL M.F f o true, M.S, putF M.I f.toNat (2 ^ o.toNat) 0, M.W⟩ else M
def tnE (M : Me) (f n a b : Int) : Int := if a = 0 ∨ b = 0 then 2 else tuE M.I f n a b
def tnM (M : Me) (f n a b : Int) : Me := if a = 0 ∨ b = 0 then M else ⟨M.F, M.S, tuL M.I f n a b, M.W⟩
def seM (M : Me) (s t : Int) : Me := ⟨M.F, stS M.S s t, M.I, M.W⟩
/-- A new memory. -/
def nwM (n : Nat) : Me := ⟨List.replicate n true, List.replicate ((n + 7) / 8) 1, List.replicate n 0, List.replicate (n * 8) 0⟩

section
variable {M : Me} {n mk : Nat}
theorem MeOk.ok (h : MeOk n M) : OkF M.I := ⟨by rw [h.i]; exact h.n8, by rw [h.i]; exact h.hi, h.is⟩
theorem nwM_ok (h1 : 8 ≤ n) (h2 : n ≤ 1024) : MeOk n (nwM n) where
  n8 := h1
  hi := h2
  f := by simp [nwM]
  s := by simp [nwM]
  kin x hx := by rw [List.eq_of_mem_replicate hx]; omega
  i := by simp [nwM]
  is x hx := by rw [List.eq_of_mem_replicate hx]; omega
  fit j hj := by simp [nwM, hj]

/-- All free frames, by kinds. -/
theorem fr_four (F : List Bool) {S : List Nat} (h : ∀ x ∈ S, x ≤ 3) : F.count true = frO F S 0 + frO F S 1 + frO F S 2 + frO F S 3 := by
  have key : ∀ m, m ≤ F.length → (F.take m).count true = cnR (frP F S 0) 0 m + cnR (frP F S 1) 0 m + cnR (frP F S 2) 0 m + cnR (frP F S 3) 0 m := by
    intro m
    induction m with
    | zero => intro _; simp [cnR]
    | succ m ih =>
      intro hm
      obtain ⟨v, hv⟩ : ∃ v, F[m]? = some v := ⟨_, List.getElem?_eq_getElem (by omega)⟩
      have hk := knd_le h m
      rw [count_take hv, ih (by omega), cnR_succ, cnR_succ, cnR_succ, cnR_succ]
      simp only [Nat.zero_add, frP, kdP, hv]
      generalize knd S m = z at hk
      obtain rfl | rfl | rfl | rfl : z = 0 ∨ z = 1 ∨ z = 2 ∨ z = 3 := by omega
      all_goals cases v <;> simp <;> omega
  have := key F.length (Nat.le_refl _)
  rw [List.take_length] at this
  exact this
theorem fr_spare (M : Me) (h : ∀ x ∈ M.S, x ≤ 3) : M.F.count true - frO M.F M.S 3 = frO M.F M.S 0 + frO M.F M.S 1 + frO M.F M.S 2 := by
  rw [fr_four M.F h]; omega
theorem spN_le (M : Me) (mk : Nat) (h : ∀ x ∈ M.S, x ≤ 3) : spN M mk ≤ M.F.length := by
  have h1 := fr_spare M h
  have h2 := List.count_le_length (a := true) (l := M.F)
  unfold spN; omega

/-- A block that was free is taken, and made so. -/
theorem MeOk.took (h : MeOk n M) {S' : List Nat} (hS : S'.length = M.S.length) (hk : ∀ x ∈ S', x ≤ 3) {f k : Nat} (hr : f + 2 ^ k ≤ n) {x : Int} (hx : isU x = true) : MeOk n (gvM M (setR M.F f (2 ^ k) false) S' f k x) := by
  have hx := isU_iff.1 hx
  refine ⟨h.n8, h.hi, by simp only [gvM]; rw [setR_length]; exact h.f, by simp only [gvM]; rw [hS]; exact h.s, hk, ?_, ?_, ?_⟩
  · simp only [gvM]; rw [put_len (by rw [h.i]; exact hr)]; exact h.i
  · intro y hy
    obtain ⟨j, hj⟩ := List.mem_iff_getElem?.1 hy
    simp only [gvM] at hj
    rw [put_get (by rw [h.i]; exact hr)] at hj
    split at hj
    · injection hj with hj; omega
    · exact h.is y (List.mem_of_getElem? hj)
  · intro j hj
    simp only [gvM]
    rw [setR_get _ _ _ _ (by rw [h.f]; exact hr), put_get (by rw [h.i]; exact hr)]
    split
    · constructor
      · intro e; injection e with e; cases e
      · intro e; injection e with e; omega
    · exact h.fit j hj
/-- What is free is FFree. -/
theorem MeOk.free_are (h : MeOk n M) {f k : Nat} (hr : f + 2 ^ k ≤ n) (hq : Alq M.F f (2 ^ k) true) : areF M.I f (2 ^ k) 0 = true := by
  unfold areF
  refine decide_eq_true fun i hi => ?_
  exact (h.fit (f + i) (by omega)).1 (hq (f + i) (by omega) (by omega))
/-- What is not free has a state of its own. -/
theorem MeOk.busy (h : MeOk n M) {j : Nat} (hj : j < n) (hq : M.F[j]? = some false) : ∃ x, M.I[j]? = some x ∧ 1 ≤ x ∧ x ≤ 5 := by
  have hl := h.i
  refine ⟨M.I[j]'(by omega), List.getElem?_eq_getElem (by omega), ?_⟩
  have h1 := h.is _ (List.getElem_mem (by omega : j < M.I.length))
  have h2 : M.I[j]'(by omega) ≠ 0 := fun e => by
    have := (h.fit j hj).2 (by rw [List.getElem?_eq_getElem (by omega), e])
    rw [hq] at this; injection this with this; cases this
  omega
theorem MeOk.len (h : MeOk n M) (f o : Int) (v : Bool) : (chL M.F f o v).length = n := by rw [chL_length]; exact h.f
/-- A block goes back. -/
theorem MeOk.drop (h : MeOk n M) (f o : Int) : MeOk n (drM M f o) := by
  unfold drM
  split
  · rename_i he
    obtain ⟨a, k, rfl, rfl, k8, al, hr, hq, hc⟩ := chE_ok (show chE M.F f o true = 0 from he)
    rw [h.f] at hr
    rw [hc, Int.toNat_natCast, Int.toNat_natCast]
    refine ⟨h.n8, h.hi, by simp only; rw [setR_length]; exact h.f, h.s, h.kin, ?_, ?_, ?_⟩
    · simp only; rw [put_len (by rw [h.i]; exact hr)]; exact h.i
    · intro y hy
      obtain ⟨j, hj⟩ := List.mem_iff_getElem?.1 hy
      simp only at hj
      rw [put_get (by rw [h.i]; exact hr)] at hj
      split at hj
      · injection hj with hj; omega
      · exact h.is y (List.mem_of_getElem? hj)
    · intro j hj
      simp only
      rw [setR_get _ _ _ _ (by rw [h.f]; exact hr), put_get (by rw [h.i]; exact hr)]
      split
      · simp
      · exact h.fit j hj
  · exact h
theorem MeOk.turn (h : MeOk n M) (f m a b : Int) : MeOk n (tnM M f m a b) := by
  unfold tnM
  split
  · exact h
  · rename_i hab
    have h1 := h.ok.turn f m a b
    refine ⟨h.n8, h.hi, h.f, h.s, h.kin, by simp only; rw [turn_len]; exact h.i, h1.is, ?_⟩
    intro j hj
    simp only
    unfold tuL
    split
    · rename_i he
      obtain ⟨f', n', rfl, rfl, n1, hl, ha, hb, hm, hr, hne⟩ := tuE_ok he
      rw [Int.toNat_natCast, Int.toNat_natCast, put_get hl]
      split
      · rename_i hin
        have hi := of_decide_eq_true hr (j - f') (by omega)
        rw [show f' + (j - f') = j by omega] at hi
        constructor
        · intro e
          have := (h.fit j hj).1 e
          rw [hi] at this; injection this with this; exact absurd (Or.inl this) hab
        · intro e; injection e with e; exact absurd (Or.inr e) hab
      · exact h.fit j hj
    · exact h.fit j hj
theorem MeOk.sets (h : MeOk n M) (s t : Int) : MeOk n (seM M s t) := ⟨h.n8, h.hi, h.f, by simp only [seM]; rw [stS_length]; exact h.s, stS_le h.kin s t, h.i, h.is, h.fit⟩
theorem MeOk.words (h : MeOk n M) (W : List Int) : MeOk n ⟨M.F, M.S, M.I, W⟩ := ⟨h.n8, h.hi, h.f, h.s, h.kin, h.i, h.is, h.fit⟩
/-- What a taking by kinds that takes has taken. -/
theorem kt_ok {F : List Bool} {S : List Nat} {o kd : Int} (h : ktE F S o kd = 0) : ∃ (k f : Nat) (c : Nat), o = k ∧ kd = c ∧ k ≤ 8 ∧ c ≤ 2 ∧ ktV F S o kd = f ∧ f + 2 ^ k ≤ F.length ∧ Fre F f k ∧ ktF F S o kd = setR F f (2 ^ k) false := by
  unfold ktE at h
  split at h
  · omega
  · rename_i hb
    have hb : okB o kd = true := by simpa using hb
    have hb' := of_decide_eq_true hb
    obtain ⟨k, rfl⟩ : ∃ k : Nat, o = k := ⟨o.toNat, by omega⟩
    obtain ⟨c, rfl⟩ : ∃ c : Nat, kd = c := ⟨kd.toNat, by omega⟩
    split at h
    · rename_i hs
      obtain ⟨x, hx⟩ := Option.isSome_iff_exists.1 hs
      have hx2 : ktP F S k c = some x := by
        unfold ktB at hx; rw [if_pos hb] at hx; simpa using hx
      obtain ⟨q1, q2, q3, q4⟩ := ktk_some (by omega) (by omega) hx2
      obtain ⟨r1, r2, r3, r4, r5⟩ := ktP_fre hx2
      exact ⟨k, x.1, c, rfl, rfl, r3, by omega, q2, r5, r4, q3⟩
    · omega
theorem kt_no {F : List Bool} {S : List Nat} {o kd : Int} (h : ktE F S o kd ≠ 0) : ktV F S o kd = 0 ∧ ktF F S o kd = F ∧ ktS F S o kd = S := by
  unfold ktE at h
  split at h
  · rename_i hb
    exact (ktk_bad hb).2
  · rename_i hb
    split at h
    · omega
    · rename_i hs
      have hs : ktB F S o kd = none := by simpa using hs
      simp [ktV, ktF, ktS, hs]
theorem ktS_le {F : List Bool} {S : List Nat} (h : ∀ x ∈ S, x ≤ 3) (o kd : Int) : ∀ x ∈ ktS F S o kd, x ≤ 3 := by
  unfold ktS
  split
  · rename_i y hy
    split
    · have hb : okB o kd = true := by
        unfold ktB at hy
        split at hy
        · assumption
        · cases hy
      have hb := of_decide_eq_true hb
      exact setS_le h (by omega)
    · exact h
  · exact h
theorem ch_no {F : List Bool} {f o : Int} {v : Bool} (h : chE F f o v ≠ 0) : chL F f o v = F := by unfold chL; rw [if_neg h]
theorem MeOk.block (h : MeOk n M) (mk : Nat) (o kd x : Int) : MeOk n (blM M mk o kd x) := by
  unfold blM
  split
  · rename_i he
    unfold blE at he
    split at he
    · omega
    · rename_i hb
      split at he
      · omega
      · obtain ⟨k, f, c, rfl, rfl, k8, c2, hv, hr, hq, hF⟩ := kt_ok he
        rw [hv, hF, Int.toNat_natCast, Int.toNat_natCast]
        rw [h.f] at hr
        exact h.took (ktS_length _ _ _ _) (ktS_le h.kin _ _) hr (by simp at hb; exact hb.2)
  · exact h
theorem MeOk.at_ (h : MeOk n M) (f o x : Int) : MeOk n (atM M f o x) := by
  unfold atM
  split
  · rename_i he
    unfold atE at he
    split at he
    · omega
    · rename_i hb
      obtain ⟨a, k, rfl, rfl, k8, al, hr, hq, hc⟩ := chE_ok he
      rw [hc, Int.toNat_natCast, Int.toNat_natCast]
      rw [h.f] at hr
      exact h.took rfl h.kin hr (by simpa using hb)
  · exact h
end
end Go.Proofs.YtklhcgekagimkaaGreat
/- A memory as it lies: the program's and the reference's. -/
namespace Go.Proofs.YtklhcgekagimkaaGreat
open Go.RowKit

/-- Free frames by kinds with a footprint: X holds the blocks that its calls turn. -/
structure Kn (X : Nat → Prop) (B : Nat) (w : World) (k n : Nat) (F : List Bool) (S : List Nat) : Prop where
  ex : ∃ a g, KinX (fun q => q < w.heap.size ∧ ¬ X q) B w k a g n F S
  own : X k
  lo : ∀ q, X q → B ≤ q ∧ q < w.heap.size
section
variable {X Xc : Nat → Prop} {w w' : World} {B k a g n : Nat} {F F' : List Bool} {S S' : List Nat}
/-- Fewer blocks are named. -/
theorem KinX.less {Y : Nat → Prop} (h : KinX Xc B w k a g n F S) (hY : ∀ b, Y b → Xc b) (hlt : ∀ b, Xc b → b < w.heap.size) : KinX Y B w k a g n F S :=
  h.more (Below.refl _ _) fun b hb => ⟨hlt b (hY b hb), Or.inl (hY b hb)⟩
/-- The lists' own blocks stand: the lists do. -/
theorem BudX.stay {L : Nat → List Nat} {p : Nat → Option Nat} {c : Nat → Nat} (h : BudX Xc B w a n L p c) (hs : w.heap.size ≤ w'.heap.size) (h1 : w'.heap[a]? = w.heap[a]?) (h2 : ∀ j, j ≤ 8 → ∀ b, p j = some b → w'.heap[b]? = w.heap[b]?) : BudX Xc B w' a n L p c where
  top := h1.trans h.top
  lo := h.lo
  nil := h.nil
  row j hj b hb := by
    obtain ⟨q0, r, q1, q2⟩ := h.row j hj b hb
    exact ⟨q0, r, (h2 j hj b hb).trans q1, q2⟩
  apart := h.apart
  exc q hq := by
    obtain ⟨q1, q2⟩ := h.exc q hq
    exact ⟨Nat.lt_of_lt_of_le q1 hs, q2⟩
theorem KinX.stay (h : KinX (fun q => q < w.heap.size ∧ ¬ X q) B w k a g n F S) (hX : X k) (hs : w.heap.size ≤ w'.heap.size) (hk : ∀ q, X q → w'.heap[q]? = w.heap[q]?) : KinX (fun q => q < w'.heap.size ∧ ¬ X q) B w' k a g n F S := by
  have hg : X g := Classical.byContradiction fun c => h.exg ⟨h.row.lt, c⟩
  obtain ⟨L, ⟨p, c, hb⟩, hG⟩ := h.bud
  have ha : X a := Classical.byContradiction fun c => (hb.exc a (Or.inl ⟨hb.top.lt, c⟩)).2.1 rfl
  have hp : ∀ j, j ≤ 8 → ∀ b, p j = some b → X b := fun j hj b e => Classical.byContradiction fun c => by
    obtain ⟨_, r, hr, _⟩ := hb.row j hj b e
    exact (hb.exc b (Or.inl ⟨hr.lt, c⟩)).2.2 j hj e
  have hb2 := hb.stay hs (hk a ha) fun j hj b e => hk b (hp j hj b e)
  refine ⟨(hk k hX).trans h.top, (hk g hg).trans h.row, ⟨L, ⟨p, c, ?_⟩, hG⟩, h.len, h.cnt, h.kin, h.n8, h.hi, h.lk, h.lg, fun e => e.2 hg⟩
  refine ⟨hb2.top, hb2.lo, hb2.nil, hb2.row, hb2.apart, ?_⟩
  rintro q (⟨q1, q2⟩ | rfl)
  · exact ⟨q1, fun e => q2 (by rw [e]; exact ha), fun j hj e => q2 (hp j hj q e)⟩
  · exact hb2.exc _ (Or.inr rfl)
theorem Kn.keep (h : Kn X B w k n F S) (hs : w.heap.size ≤ w'.heap.size) (hk : ∀ q, X q → w'.heap[q]? = w.heap[q]?) : Kn X B w' k n F S := by
  obtain ⟨⟨a, g, hK⟩, h1, h2⟩ := h
  exact ⟨⟨a, g, hK.stay h1 hs hk⟩, h1, fun q hq => ⟨(h2 q hq).1, Nat.lt_of_lt_of_le (h2 q hq).2 hs⟩⟩
/-- Behind a call that turns the lists and the sections. -/
theorem Kn.turned (h : Kn X B w k n F S) (hB : B ≤ w.heap.size) (ht : Turn (fun q => q < w.heap.size ∧ ¬ X q) B w w') (hK : KinX (fun q => q < w.heap.size ∧ ¬ X q) B w' k a g n F' S') :
    ∃ X' : Nat → Prop, Kn X' B w' k n F' S' ∧ Foot X w w' ∧ ∀ q, X' q → X q ∨ w.heap.size ≤ q := by
  refine ⟨fun q => X q ∨ (w.heap.size ≤ q ∧ q < w'.heap.size), ⟨⟨a, g, ?_⟩, Or.inl h.own, ?_⟩, ⟨ht.os, ht.tape, ht.output, ht.size, fun q h1 h2 => ht.exc q ⟨h1, h2⟩ h1⟩, ?_⟩
  · refine hK.less ?_ fun b hb => Nat.lt_of_lt_of_le hb.1 ht.size
    rintro b ⟨h1, h2⟩
    exact ⟨Nat.lt_of_not_le fun e => h2 (Or.inr ⟨e, h1⟩), fun e => h2 (Or.inl e)⟩
  · rintro q (hq | ⟨h1, h2⟩)
    · exact ⟨(h.lo q hq).1, Nat.lt_of_lt_of_le (h.lo q hq).2 ht.size⟩
    · exact ⟨Nat.le_trans hB h1, h2⟩
  · rintro q (hq | ⟨h1, _⟩)
    · exact Or.inl hq
    · exact Or.inr h1
theorem Kn.size (h : Kn X B w k n F S) : B ≤ w.heap.size := by obtain ⟨⟨a, g, hK⟩, _, _⟩ := h; exact hK.lo
/-- What a call of free frames by kinds comes to. -/
def KDid (X : Nat → Prop) (B k n : Nat) (r : Value) (F : List Bool) (S : List Nat) (w : World) (e : Ending) (w' : World) : Prop :=
  e = .returned r ∧ ∃ X' : Nat → Prop, Kn X' B w' k n F S ∧ Foot X w w' ∧ ∀ q, X' q → X q ∨ w.heap.size ≤ q
theorem nTakeAt (h : Kn X B w k n F S) (f o : Int) (hf : Fits f) : Calls Tryz.prog 68 #[.pointer (some ⟨k, 0, none⟩), .int .i64 f, .int .i64 o] w (KDid X B k n (.int .i64 (chE F f o false)) (chL F f o false) S w) := by
  obtain ⟨a, g, hK⟩ := h.ex
  refine (kTakeAt_any hK f o hf.1 hf.2).mono ?_
  rintro e w' ⟨rfl, ht, hK'⟩
  exact ⟨rfl, h.turned h.size ht hK'⟩
theorem nGive (h : Kn X B w k n F S) (f o : Int) (hf : Fits f) : Calls Tryz.prog 63 #[.pointer (some ⟨k, 0, none⟩), .int .i64 f, .int .i64 o] w (KDid X B k n (.int .i64 (chE F f o true)) (chL F f o true) S w) := by
  obtain ⟨a, g, hK⟩ := h.ex
  refine (kGive_any hK f o hf.1 hf.2).mono ?_
  rintro e w' ⟨rfl, ht, hK'⟩
  exact ⟨rfl, h.turned h.size ht hK'⟩
theorem nSet (h : Kn X B w k n F S) (s t : Int) : Calls Tryz.prog 69 #[.pointer (some ⟨k, 0, none⟩), .int .i64 s, .int .i64 t] w (KDid X B k n (.int .i64 (stE S.length s t)) F (stS S s t) w) := by
  obtain ⟨a, g, hK⟩ := h.ex
  refine (kSet_any hK s t).mono ?_
  rintro e w' ⟨rfl, ht, hK'⟩
  exact ⟨rfl, h.turned h.size ht hK'⟩
theorem nTake (h : Kn X B w k n F S) (o kd : Int) : Calls Tryz.prog 67 #[.pointer (some ⟨k, 0, none⟩), .int .i64 o, .int .i64 kd] w (KDid X B k n (.tuple #[.int .i64 (ktV F S o kd), .int .i64 (ktE F S o kd)]) (ktF F S o kd) (ktS F S o kd) w) := by
  obtain ⟨a, g, hK⟩ := h.ex
  refine (kTake_any hK o kd).mono ?_
  rintro e w' ⟨rfl, ht, hK'⟩
  exact ⟨rfl, h.turned h.size ht hK'⟩
theorem nNew (n : Nat) (h1 : 8 ≤ n) (h2 : n ≤ 1024) (w : World) : Calls Tryz.prog 49 #[.int .i64 n] w fun e w' => ∃ k X, e = .returned (.tuple #[.pointer (some ⟨k, 0, none⟩), .int .i64 0]) ∧ Below w.heap.size w w' ∧ Kn X w.heap.size w' k n (List.replicate n true) (List.replicate ((n + 7) / 8) 1) := by
  refine (kNew_any (Xc := fun q => q < w.heap.size) n h1 h2 w fun g hg => hg).mono ?_
  rintro e w' ⟨k, a, g, rfl, hb, hK⟩
  refine ⟨k, fun q => w.heap.size ≤ q ∧ q < w'.heap.size, rfl, hb, ⟨a, g, hK.less ?_ fun b hb' => Nat.lt_of_lt_of_le hb' hb.size⟩, ⟨hK.lk, hK.top.lt⟩, fun q hq => hq⟩
  rintro b ⟨h1, h2⟩
  exact Nat.lt_of_not_le fun e => h2 ⟨e, h1⟩
end

/-- The blocks' names of a memory of the program. -/
structure Pn where
  m : Nat
  a : Nat
  b : Nat
  k : Nat
  s : Nat
  g : Nat
/-- The blocks that its calls turn. -/
def MineP (p : Pn) (X : Nat → Prop) (q : Nat) : Prop := q = p.m ∨ q = p.a ∨ q = p.b ∨ q = p.s ∨ q = p.g ∨ X q
/-- A memory of the program. -/
structure PmX (B : Nat) (w : World) (p : Pn) (X : Nat → Prop) (n mk : Nat) (M : Me) : Prop where
  top : Lrow w p.m 86 [.pointer (some ⟨p.a, 0, none⟩), .pointer (some ⟨p.k, 0, none⟩), .pointer (some ⟨p.s, 0, none⟩), .int .i64 mk]
  ram : RamAt w p.a p.b 80 (n * 8) M.W
  kin : Kn X B w p.k n M.F M.S
  frs : Fx B w p.s p.g M.I
  nm : ¬ X p.m
  na : ¬ X p.a
  nb : ¬ X p.b
  ns : ¬ X p.s
  ng : ¬ X p.g
  lm : B ≤ p.m
  la : B ≤ p.a
  lb : B ≤ p.b
section
variable {X X' : Nat → Prop} {w w' : World} {B n mk : Nat} {p : Pn} {M : Me} {F' : List Bool} {S' : List Nat}
theorem PmX.mine (h : PmX B w p X n mk M) {q : Nat} (hq : MineP p X q) : B ≤ q ∧ q < w.heap.size := by
  rcases hq with rfl | rfl | rfl | rfl | rfl | hq
  · exact ⟨h.lm, h.top.lt⟩
  · exact ⟨h.la, h.ram.top.lt⟩
  · exact ⟨h.lb, h.ram.row.lt⟩
  · exact h.frs.mine _ (Or.inl rfl)
  · exact h.frs.mine _ (Or.inr rfl)
  · exact h.kin.lo q hq
theorem PmX.size (h : PmX B w p X n mk M) : B ≤ w.heap.size := h.kin.size
theorem PmX.keep (h : PmX B w p X n mk M) (hs : w.heap.size ≤ w'.heap.size) (hk : ∀ q, MineP p X q → w'.heap[q]? = w.heap[q]?) : PmX B w' p X n mk M :=
  ⟨(hk _ (Or.inl rfl)).trans h.top,
   ⟨h.ram.len, h.ram.m8, h.ram.lo, h.ram.hi, h.ram.words, (hk _ (Or.inr (Or.inl rfl))).trans h.ram.top, (hk _ (Or.inr (Or.inr (Or.inl rfl)))).trans h.ram.row, h.ram.ne⟩,
   h.kin.keep hs fun q hq => hk q (Or.inr (Or.inr (Or.inr (Or.inr (Or.inr hq))))),
   h.frs.keep fun q hq => hk q (by rcases hq with rfl | rfl; exact Or.inr (Or.inr (Or.inr (Or.inl rfl))); exact Or.inr (Or.inr (Or.inr (Or.inr (Or.inl rfl))))),
   h.nm, h.na, h.nb, h.ns, h.ng, h.lm, h.la, h.lb⟩
theorem PmX.call (h : PmX B w p X n mk M) (hb : Below w.heap.size w w') : PmX B w' p X n mk M := h.keep hb.size fun q hq => hb.block q (h.mine hq).2
theorem PmX.drewN (h : PmX B w p X n mk M) (j : Nat) : PmX B (w.drewN j) p X n mk M := h.call (below_drewN _ _)
theorem PmX.foot {Y : Nat → Prop} (h : PmX B w p X n mk M) (hf : Foot Y w w') (hd : ∀ q, MineP p X q → ¬ Y q) : PmX B w' p X n mk M := h.keep hf.size fun q hq => hf.keep q (h.mine hq).2 (hd q hq)
/-- Two rows of unlike types. -/
theorem row_ne {g g' : Nat} {t t' : TypeId} {vs vs' : List Value} (h : Lrow w g t vs) (h' : Lrow w g' t' vs') (hne : t ≠ t') : g ≠ g' := h.apart h' hne
theorem PmX.ramRow (h : PmX B w p X n mk M) : Lrow w p.b 34 (wcells M.W) := h.ram.row
theorem PmX.ramTop (h : PmX B w p X n mk M) : Lrow w p.a 80 [.slice (some ⟨p.b, 0, none⟩) (n * 8 : Nat) (n * 8)] := h.ram.top
theorem PmX.kTop (h : PmX B w p X n mk M) : ∃ vs, Lrow w p.k 113 vs := by obtain ⟨a, g, hK⟩ := h.kin.ex; exact ⟨_, hK.top⟩
/-- Free frames and sections have been turned. -/
theorem PmX.kinT (h : PmX B w p X n mk M) (hK : Kn X' B w' p.k n F' S') (hf : Foot X w w') (hx : ∀ q, X' q → X q ∨ w.heap.size ≤ q) : PmX B w' p X' n mk ⟨F', S', M.I, M.W⟩ := by
  have fresh : ∀ q, ¬ X q → q < w.heap.size → ¬ X' q := fun q h1 h2 e => by rcases hx q e with e | e; exact h1 e; omega
  have kp : ∀ q, ¬ X q → q < w.heap.size → w'.heap[q]? = w.heap[q]? := fun q h1 h2 => hf.keep q h2 h1
  refine ⟨(kp _ h.nm h.top.lt).trans h.top, ?_, hK, h.frs.keep ?_, fresh _ h.nm h.top.lt, fresh _ h.na h.ram.top.lt, fresh _ h.nb h.ram.row.lt, fresh _ h.ns h.frs.top.lt, fresh _ h.ng h.frs.row.lt, h.lm, h.la, h.lb⟩
  · exact ⟨h.ram.len, h.ram.m8, h.ram.lo, h.ram.hi, h.ram.words, (kp _ h.na h.ram.top.lt).trans h.ram.top, (kp _ h.nb h.ram.row.lt).trans h.ram.row, h.ram.ne⟩
  · rintro q (rfl | rfl)
    · exact kp _ h.ns h.frs.top.lt
    · exact kp _ h.ng h.frs.row.lt
/-- Words have been turned. -/
theorem PmX.ramT {W' : List Int} (h : PmX B w p X n mk M) (hr : RamAt w' p.a p.b 80 (n * 8) W') (hg : w.grownBy w' (some p.b)) : PmX B w' p X n mk ⟨M.F, M.S, M.I, W'⟩ := by
  have kp : ∀ q, q ≠ p.b → q < w.heap.size → w'.heap[q]? = w.heap[q]? := fun q h1 h2 => hg.block q h2 (fun e => h1 (by injection e))
  refine ⟨(kp _ (row_ne h.top h.ramRow (by decide)) h.top.lt).trans h.top, hr, h.kin.keep hg.size fun q hq => kp q (fun e => h.nb (by rw [← e]; exact hq)) (h.kin.lo q hq).2, h.frs.keep ?_, h.nm, h.na, h.nb, h.ns, h.ng, h.lm, h.la, h.lb⟩
  rintro q (rfl | rfl)
  · exact kp _ (row_ne h.frs.top h.ramRow (by decide)) h.frs.top.lt
  · exact kp _ (row_ne h.frs.row h.ramRow (by decide)) h.frs.row.lt
/-- States have been turned. -/
theorem PmX.frsT {I' : List Int} (h : PmX B w p X n mk M) (hr : Fx B w' p.s p.g I') (hf : Foot (MineF p.s p.g) w w') : PmX B w' p X n mk ⟨M.F, M.S, I', M.W⟩ := by
  have kp : ∀ q, q ≠ p.s → q ≠ p.g → q < w.heap.size → w'.heap[q]? = w.heap[q]? := fun q h1 h2 h3 => hf.keep q h3 (fun e => by rcases e with e | e; exact h1 e; exact h2 e)
  refine ⟨(kp _ (row_ne h.top h.frs.top (by decide)) (row_ne h.top h.frs.row (by decide)) h.top.lt).trans h.top, ?_, h.kin.keep hf.size fun q hq => kp q (fun e => h.ns (by rw [← e]; exact hq)) (fun e => h.ng (by rw [← e]; exact hq)) (h.kin.lo q hq).2, hr, h.nm, h.na, h.nb, h.ns, h.ng, h.lm, h.la, h.lb⟩
  exact ⟨h.ram.len, h.ram.m8, h.ram.lo, h.ram.hi, h.ram.words, (kp _ (row_ne h.ramTop h.frs.top (by decide)) (row_ne h.ramTop h.frs.row (by decide)) h.ramTop.lt).trans h.ram.top, (kp _ (row_ne h.ramRow h.frs.top (by decide)) (row_ne h.ramRow h.frs.row (by decide)) h.ramRow.lt).trans h.ram.row, h.ram.ne⟩
theorem PmX.c0 (h : PmX B w p X n mk M) : w.cell? ⟨p.m, 0, none⟩ = some (.pointer (some ⟨p.a, 0, none⟩)) := by rw [h.top.cell]; rfl
theorem PmX.c1 (h : PmX B w p X n mk M) : w.cell? ⟨p.m, 1, none⟩ = some (.pointer (some ⟨p.k, 0, none⟩)) := by rw [h.top.cell]; rfl
theorem PmX.c2 (h : PmX B w p X n mk M) : w.cell? ⟨p.m, 2, none⟩ = some (.pointer (some ⟨p.s, 0, none⟩)) := by rw [h.top.cell]; rfl
theorem PmX.c3 (h : PmX B w p X n mk M) : w.cell? ⟨p.m, 3, none⟩ = some (.int .i64 mk) := by rw [h.top.cell]; rfl
/-- What a call that turns something comes to. -/
def PDid (B : Nat) (p : Pn) (X : Nat → Prop) (n mk : Nat) (M' : Me) (w w' : World) : Prop := ∃ X' : Nat → Prop, PmX B w' p X' n mk M' ∧ Foot (MineP p X) w w' ∧ ∀ q, X' q → X q ∨ w.heap.size ≤ q
theorem PDid.same (h : PmX B w p X n mk M) (hb : Below w.heap.size w w') : PDid B p X n mk M w w' := ⟨X, h.call hb, Foot.of_below hb, fun _ e => Or.inl e⟩
end

/-- The blocks' names of a memory of the reference. -/
structure Rn where
  x : Nat
  z : Nat
  p : Nat
  y : Nat
  h : Nat
  c : Nat
  d : Nat
def MineR (r : Rn) (v : Value) (q : Nat) : Prop := q = r.x ∨ q = r.z ∨ q = r.p ∨ q = r.y ∨ q = r.h ∨ q = r.c ∨ q = r.d ∨ v.ownBlock = some q
/-- A memory of the reference. -/
structure RmX (B : Nat) (w : World) (r : Rn) (v : Value) (n mk : Nat) (M : Me) : Prop where
  top : Lrow w r.x 32 [.pointer (some ⟨r.z, 0, none⟩), .pointer (some ⟨r.c, 0, none⟩), v, .int .i64 mk]
  kin : RefK w r.z r.p r.y r.h n M.F M.S
  ram : RamAt w r.c r.d 42 (n * 8) M.W
  own : EI.Own B w v M.I
  nh : v.ownBlock ≠ some r.h
  lx : B ≤ r.x
  lz : B ≤ r.z
  lp : B ≤ r.p
  ly : B ≤ r.y
  lh : B ≤ r.h
  lc : B ≤ r.c
  ld : B ≤ r.d
section
variable {w w' : World} {B n mk : Nat} {r : Rn} {v v' : Value} {M : Me} {F' : List Bool} {S' : List Nat}
theorem RefK.keepAll {z x y h n : Nat} {F : List Bool} {S : List Nat} (hR : RefK w z x y h n F S) (hz : w'.heap[z]? = w.heap[z]?) (hx : w'.heap[x]? = w.heap[x]?) (hy : w'.heap[y]? = w.heap[y]?) (hh : w'.heap[h]? = w.heap[h]?) : RefK w' z x y h n F S := by
  obtain ⟨c, h1, h2⟩ := hR.top
  obtain ⟨t, h3⟩ := hR.row
  exact ⟨⟨hR.ref.len, hR.ref.hi, hx.trans hR.ref.top, hy.trans hR.ref.row⟩, ⟨c, h1, hz.trans h2⟩, ⟨t, hh.trans h3⟩, hR.cnt⟩
theorem RmX.vrow (h : RmX B w r v n mk M) {q : Nat} (e : v.ownBlock = some q) : ∃ vs, Lrow w q 3 vs ∧ B ≤ q := h.own.block e
theorem RmX.mine (h : RmX B w r v n mk M) {q : Nat} (hq : MineR r v q) : B ≤ q ∧ q < w.heap.size := by
  rcases hq with rfl | rfl | rfl | rfl | rfl | rfl | rfl | hq
  · exact ⟨h.lx, h.top.lt⟩
  · exact ⟨h.lz, h.kin.lt.1⟩
  · exact ⟨h.lp, h.kin.ref.top.lt⟩
  · exact ⟨h.ly, h.kin.ref.row.lt⟩
  · exact ⟨h.lh, h.kin.lt.2⟩
  · exact ⟨h.lc, h.ram.top.lt⟩
  · exact ⟨h.ld, h.ram.row.lt⟩
  · obtain ⟨vs, h1, h2⟩ := h.vrow hq
    exact ⟨h2, h1.lt⟩
theorem RmX.keep (h : RmX B w r v n mk M) (hk : ∀ q, MineR r v q → w'.heap[q]? = w.heap[q]?) : RmX B w' r v n mk M :=
  ⟨(hk _ (Or.inl rfl)).trans h.top,
   h.kin.keepAll (hk _ (Or.inr (Or.inl rfl))) (hk _ (Or.inr (Or.inr (Or.inl rfl)))) (hk _ (Or.inr (Or.inr (Or.inr (Or.inl rfl))))) (hk _ (Or.inr (Or.inr (Or.inr (Or.inr (Or.inl rfl)))))),
   ⟨h.ram.len, h.ram.m8, h.ram.lo, h.ram.hi, h.ram.words, (hk _ (Or.inr (Or.inr (Or.inr (Or.inr (Or.inr (Or.inl rfl))))))).trans h.ram.top, (hk _ (Or.inr (Or.inr (Or.inr (Or.inr (Or.inr (Or.inr (Or.inl rfl)))))))).trans h.ram.row, h.ram.ne⟩,
   h.own.heap fun q e => hk q (Or.inr (Or.inr (Or.inr (Or.inr (Or.inr (Or.inr (Or.inr e))))))), h.nh, h.lx, h.lz, h.lp, h.ly, h.lh, h.lc, h.ld⟩
theorem RmX.call (h : RmX B w r v n mk M) (hb : Below w.heap.size w w') : RmX B w' r v n mk M := h.keep fun q hq => hb.block q (h.mine hq).2
theorem RmX.drewN (h : RmX B w r v n mk M) (j : Nat) : RmX B (w.drewN j) r v n mk M := h.call (below_drewN _ _)
theorem RmX.foot {Y : Nat → Prop} (h : RmX B w r v n mk M) (hf : Foot Y w w') (hd : ∀ q, MineR r v q → ¬ Y q) : RmX B w' r v n mk M := h.keep fun q hq => hf.keep q (h.mine hq).2 (hd q hq)
/-- What a call of the reference that turns something comes to. -/
def RDid (B : Nat) (r : Rn) (v : Value) (n mk : Nat) (M' : Me) (w w' : World) : Prop := ∃ v', RmX B w' r v' n mk M' ∧ Foot (MineR r v) w w' ∧ (v' = v ∨ ∃ q, v'.ownBlock = some q ∧ w.heap.size ≤ q)
theorem RDid.same (h : RmX B w r v n mk M) (hb : Below w.heap.size w w') : RDid B r v n mk M w w' := ⟨v, h.call hb, Foot.of_below hb, Or.inl rfl⟩
theorem RmX.c0 (h : RmX B w r v n mk M) : w.cell? ⟨r.x, 0, none⟩ = some (.pointer (some ⟨r.z, 0, none⟩)) := by rw [h.top.cell]; rfl
theorem RmX.c1 (h : RmX B w r v n mk M) : w.cell? ⟨r.x, 1, none⟩ = some (.pointer (some ⟨r.c, 0, none⟩)) := by rw [h.top.cell]; rfl
theorem RmX.c2 (h : RmX B w r v n mk M) : w.cell? ⟨r.x, 2, none⟩ = some v := by rw [h.top.cell]; rfl
theorem RmX.c3 (h : RmX B w r v n mk M) : w.cell? ⟨r.x, 3, none⟩ = some (.int .i64 mk) := by rw [h.top.cell]; rfl
theorem RmX.size (h : RmX B w r v n mk M) : B ≤ w.heap.size := Nat.le_trans h.lx (Nat.le_of_lt h.top.lt)
/-- Frames have been turned. -/
theorem RmX.frmT (h : RmX B w r v n mk M) (hR : RefK w' r.z r.p r.y r.h n F' M.S) (hg : w.grownBy w' (some r.y)) : RmX B w' r v n mk ⟨F', M.S, M.I, M.W⟩ := by
  have kp : ∀ q {t : TypeId} {vs : List Value}, Lrow w q t vs → t ≠ 4 → w'.heap[q]? = w.heap[q]? := fun q t vs hr ht => hg.block q hr.lt (fun e => row_ne hr h.kin.ref.row ht (by injection e))
  refine ⟨(kp _ h.top (by decide)).trans h.top, hR, ⟨h.ram.len, h.ram.m8, h.ram.lo, h.ram.hi, h.ram.words, (kp _ (show Lrow w r.c _ _ from h.ram.top) (by decide)).trans h.ram.top, (kp _ (show Lrow w r.d _ _ from h.ram.row) (by decide)).trans h.ram.row, h.ram.ne⟩, h.own.heap fun q e => ?_, h.nh, h.lx, h.lz, h.lp, h.ly, h.lh, h.lc, h.ld⟩
  obtain ⟨vs, h1, _⟩ := h.vrow e
  exact kp _ h1 (by decide)
/-- Sections have been turned. -/
theorem RmX.secT (h : RmX B w r v n mk M) (hR : RefK w' r.z r.p r.y r.h n M.F S') (hg : w.grownBy w' (some r.h)) : RmX B w' r v n mk ⟨M.F, S', M.I, M.W⟩ := by
  obtain ⟨us, hh⟩ : ∃ us, Lrow w r.h 3 us := by obtain ⟨t, h3⟩ := h.kin.row; exact ⟨_, h3⟩
  have kp : ∀ q {t : TypeId} {vs : List Value}, Lrow w q t vs → t ≠ 3 → w'.heap[q]? = w.heap[q]? := fun q t vs hr ht => hg.block q hr.lt (fun e => row_ne hr hh ht (by injection e))
  refine ⟨(kp _ h.top (by decide)).trans h.top, hR, ⟨h.ram.len, h.ram.m8, h.ram.lo, h.ram.hi, h.ram.words, (kp _ (show Lrow w r.c _ _ from h.ram.top) (by decide)).trans h.ram.top, (kp _ (show Lrow w r.d _ _ from h.ram.row) (by decide)).trans h.ram.row, h.ram.ne⟩, h.own.heap fun q e => ?_, h.nh, h.lx, h.lz, h.lp, h.ly, h.lh, h.lc, h.ld⟩
  obtain ⟨vs, h1, _⟩ := h.vrow e
  exact hg.block q h1.lt (fun e' => h.nh (by rw [e, e']))
/-- Words have been turned. -/
theorem RmX.ramT {W' : List Int} (h : RmX B w r v n mk M) (hr : RamAt w' r.c r.d 42 (n * 8) W') (hg : w.grownBy w' (some r.d)) : RmX B w' r v n mk ⟨M.F, M.S, M.I, W'⟩ := by
  have hd : Lrow w r.d 34 (wcells M.W) := h.ram.row
  have kp : ∀ q {t : TypeId} {vs : List Value}, Lrow w q t vs → t ≠ 34 → w'.heap[q]? = w.heap[q]? := fun q t vs hr ht => hg.block q hr.lt (fun e => row_ne hr hd ht (by injection e))
  obtain ⟨c, _, h2⟩ := h.kin.top
  obtain ⟨t, h3⟩ := h.kin.row
  refine ⟨(kp _ h.top (by decide)).trans h.top, h.kin.keepAll (kp _ h2 (by decide)) (kp _ h.kin.ref.top (by decide)) (kp _ h.kin.ref.row (by decide)) (kp _ h3 (by decide)), hr, h.own.heap fun q e => ?_, h.nh, h.lx, h.lz, h.lp, h.ly, h.lh, h.lc, h.ld⟩
  obtain ⟨vs, h1, _⟩ := h.vrow e
  exact kp _ h1 (by decide)
end
end Go.Proofs.YtklhcgekagimkaaGreat
