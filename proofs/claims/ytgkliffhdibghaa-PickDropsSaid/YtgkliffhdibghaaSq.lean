/- What each call of package pick answers over the items that are there, in whatever order they are listed, and what becomes of them. -/
import Derived.Test.YtgkliffhdibghaaSp
namespace Go.Proofs.Ytgkliffhdibghaa

/-- Frames are apart. -/
def Dst (N : List It) : Prop := N.Pairwise fun x y => x.1 ≠ y.1
theorem Dst.perm {N L : List It} (h : Dst N) (p : N.Perm L) : Dst L := (p.pairwise_iff (fun h => Ne.symm h)).1 h
theorem Idx.dst {L : List It} {M : Int → Option Int} (h : Idx L M) : Dst L := by
  unfold Dst
  rw [List.pairwise_iff_getElem]
  intro i j hi hj hij e
  have := h.inj hi hj (by rw [at_of_get (List.getElem?_eq_getElem hi), at_of_get (List.getElem?_eq_getElem hj)]; exact e)
  omega
theorem Dst.uniq {N : List It} (h : Dst N) : ∀ {x y : It}, x ∈ N → y ∈ N → x.1 = y.1 → x = y := by
  induction N with
  | nil => intro x y hx; cases hx
  | cons z r ih =>
    intro x y hx hy e
    obtain ⟨h1, h2⟩ := List.pairwise_cons.1 h
    rcases List.mem_cons.1 hx with hx | hx <;> rcases List.mem_cons.1 hy with hy | hy
    · rw [hx, hy]
    · rw [hx] at e; exact absurd e (h1 _ hy)
    · rw [hy] at e; exact absurd e.symm (h1 _ hx)
    · exact ih h2 hx hy e

def isF (f : Int) (x : It) : Bool := x.1 == f
/-- Is a frame there? -/
def hasF (N : List It) (f : Int) : Bool := N.any (isF f)
/-- Where it stands; the length: nowhere. -/
def ix (N : List It) (f : Int) : Nat := N.findIdx (isF f)
theorem hasF_iff {N : List It} {f : Int} : hasF N f = true ↔ ∃ x ∈ N, x.1 = f := by simp [hasF, isF]
theorem hasF_not {N : List It} {f : Int} (h : hasF N f = false) : ∀ x ∈ N, x.1 ≠ f := fun x hx e => by
  have := hasF_iff.2 ⟨x, hx, e⟩; rw [h] at this; cases this
theorem hasF_perm {N L : List It} (p : N.Perm L) (f : Int) : hasF N f = hasF L f := by
  rw [Bool.eq_iff_iff, hasF_iff, hasF_iff]
  exact ⟨fun ⟨x, hx, e⟩ => ⟨x, p.mem_iff.1 hx, e⟩, fun ⟨x, hx, e⟩ => ⟨x, p.mem_iff.2 hx, e⟩⟩
theorem ix_le (N : List It) (f : Int) : ix N f ≤ N.length := List.findIdx_le_length
theorem ix_lt {N : List It} {f : Int} : ix N f < N.length ↔ hasF N f = true := by
  unfold ix
  rw [List.findIdx_lt_length, hasF_iff]
  simp [isF]
theorem ix_at {N : List It} {f : Int} (h : hasF N f = true) : (at' N (ix N f)).1 = f := by
  have hl := ix_lt.2 h
  have := List.findIdx_getElem (xs := N) (p := isF f) (w := hl)
  rw [at_of_get (List.getElem?_eq_getElem hl)]
  simp only [isF, beq_iff_eq] at this
  exact this
theorem ix_before {N : List It} {f : Int} {k : Nat} (h : k < ix N f) : (at' N k).1 ≠ f := by
  have hl : k < N.length := Nat.lt_of_lt_of_le h (ix_le N f)
  have := List.not_of_lt_findIdx (xs := N) (p := isF f) h
  rw [at_of_get (List.getElem?_eq_getElem hl)]
  simpa [isF] using this
theorem ix_eq {N : List It} {f : Int} {k : Nat} (hk : k < N.length) (he : (at' N k).1 = f) (hb : ∀ j, j < k → (at' N j).1 ≠ f) : ix N f = k := by
  rcases Nat.lt_trichotomy (ix N f) k with h | h | h
  · exact absurd (ix_at (hasF_iff.2 ⟨_, at_mem hk, he⟩)) (hb _ h)
  · exact h
  · exact absurd he (ix_before h)
theorem ix_none {N : List It} {f : Int} (h : ∀ j, j < N.length → (at' N j).1 ≠ f) : hasF N f = false := by
  rw [Bool.eq_false_iff]
  intro e
  exact h _ (ix_lt.2 e) (ix_at e)
/-- The item of a frame that is there. -/
theorem at_ix {N : List It} {f : Int} (hd : Dst N) {x : It} (hx : x ∈ N) (e : x.1 = f) : at' N (ix N f) = x := by
  have h := hasF_iff.2 ⟨x, hx, e⟩
  exact hd.uniq (at_mem (ix_lt.2 h)) hx ((ix_at h).trans e.symm)

/-- Is it a frame? -/
def frB (f : Int) : Bool := decide (0 ≤ f ∧ f ≤ 1023)
def putE (f : Int) : Int := if frB f = true then 0 else 3
def putL (N : List It) (f w : Int) : List It :=
  if frB f = true then (if hasF N f = true then N.map (fun x => if x.1 = f then (f, w) else x) else N ++ [(f, w)]) else N
def dropE (N : List It) (f : Int) : Int := if hasF N f = true then 0 else 6
def dropL (N : List It) (f : Int) : List It := N.filter fun x => !isF f x
/-- The least one. -/
def lst : List It → It
  | [] => (0, 0)
  | x :: r => r.foldl (fun b y => if ltB y b = true then y else b) x
def noE (N : List It) : Int := if N.length = 0 then 6 else 0
def worV (N : List It) (f : Int) : Int := if hasF N f = true then (at' N (ix N f)).2 else 0

theorem putL_in {N : List It} {f w : Int} (h : frB f = true) (g : hasF N f = true) : putL N f w = N.map (fun x => if x.1 = f then (f, w) else x) := by simp [putL, h, g]
theorem putL_new {N : List It} {f w : Int} (h : frB f = true) (g : hasF N f = false) : putL N f w = N ++ [(f, w)] := by simp [putL, h, g]
theorem putL_no {N : List It} {f w : Int} (h : frB f = false) : putL N f w = N := by simp [putL, h]
theorem map_set {N : List It} (hd : Dst N) {k : Nat} (hk : k < N.length) {f w : Int} (e : (at' N k).1 = f) : N.map (fun x => if x.1 = f then (f, w) else x) = N.set k (f, w) := by
  apply List.ext_getElem?
  intro i
  rw [List.getElem?_map, List.getElem?_set]
  by_cases hik : k = i
  · subst hik
    rw [at_get hk, if_pos rfl, if_pos hk, Option.map_some, if_pos e]
  · rw [if_neg hik]
    by_cases hi : i < N.length
    · rw [at_get hi]
      have : (at' N i).1 ≠ f := fun e2 => hik (by
        have := List.pairwise_iff_getElem.1 hd
        rcases Nat.lt_trichotomy k i with h | h | h
        · exact absurd (by rw [← at_of_get (List.getElem?_eq_getElem hk), ← at_of_get (List.getElem?_eq_getElem hi), e, e2]) (this k i hk hi h)
        · exact h
        · exact absurd (by rw [← at_of_get (List.getElem?_eq_getElem hk), ← at_of_get (List.getElem?_eq_getElem hi), e, e2]) (this i k hi hk h))
      simp [this]
    · rw [List.getElem?_eq_none (by omega)]; rfl
theorem Dst.map {N : List It} (h : Dst N) (f w : Int) : Dst (N.map (fun x => if x.1 = f then (f, w) else x)) := by
  unfold Dst at *
  rw [List.pairwise_map]
  refine h.imp fun {a b} hab => ?_
  by_cases ha : a.1 = f <;> by_cases hb : b.1 = f <;> simp [ha, hb] <;> omega
theorem Dst.put {N : List It} (h : Dst N) (f w : Int) : Dst (putL N f w) := by
  unfold putL
  split
  · split
    · exact h.map f w
    · rename_i hf hn
      refine List.pairwise_append.2 ⟨h, List.pairwise_singleton _ _, fun a ha b hb => ?_⟩
      rw [List.mem_singleton.1 hb]
      exact hasF_not (by simpa using hn) a ha
  · exact h
theorem Dst.drop {N : List It} (h : Dst N) (f : Int) : Dst (dropL N f) := h.filter _
theorem putL_perm {N L : List It} (p : N.Perm L) (f w : Int) : (putL N f w).Perm (putL L f w) := by
  unfold putL
  rw [hasF_perm p f]
  split
  · split
    · exact p.map _
    · exact p.append_right _
  · exact p
theorem dropL_perm {N L : List It} (p : N.Perm L) (f : Int) : (dropL N f).Perm (dropL L f) := p.filter _
/-- One item is taken out of a list. -/
theorem dropL_of {N L : List It} {x : It} (hd : Dst N) (p : N.Perm (L ++ [x])) : (dropL N x.1).Perm L := by
  have h1 := dropL_perm p x.1
  have h2 : dropL (L ++ [x]) x.1 = L := by
    unfold dropL
    rw [List.filter_append, List.filter_eq_self.2]
    · simp [isF]
    · intro y hy
      have := List.pairwise_append.1 (hd.perm p)
      simpa [isF] using this.2.2 y hy x (by simp)
  rw [h2] at h1
  exact h1
theorem dropL_none {N : List It} {f : Int} (h : hasF N f = false) : dropL N f = N := by
  unfold dropL
  rw [List.filter_eq_self]
  intro y hy
  have := hasF_not h y hy
  simpa [isF] using this

theorem lst_fold (r : List It) : ∀ b : It, (r.foldl (fun b y => if ltB y b = true then y else b) b ∈ b :: r) ∧ ∀ y ∈ b :: r, le (r.foldl (fun b y => if ltB y b = true then y else b) b) y := by
  induction r with
  | nil => intro b; simp [le_refl]
  | cons z r ih =>
    intro b
    simp only [List.foldl_cons]
    by_cases h : ltB z b = true
    · rw [if_pos h]
      obtain ⟨h1, h2⟩ := ih z
      refine ⟨List.mem_cons_of_mem _ h1, fun y hy => ?_⟩
      rcases List.mem_cons.1 hy with rfl | hy
      · exact le_trans (h2 z List.mem_cons_self) (le_of_lt h)
      · exact h2 y hy
    · rw [if_neg h]
      obtain ⟨h1, h2⟩ := ih b
      refine ⟨?_, fun y hy => ?_⟩
      · rcases List.mem_cons.1 h1 with e | h1
        · rw [e]; exact List.mem_cons_self
        · exact List.mem_cons_of_mem _ (List.mem_cons_of_mem _ h1)
      · rcases List.mem_cons.1 hy with rfl | hy
        · exact h2 y List.mem_cons_self
        · rcases List.mem_cons.1 hy with rfl | hy
          · exact le_trans (h2 b List.mem_cons_self) (le_of_not (by simpa using h))
          · exact h2 y (List.mem_cons_of_mem _ hy)
theorem lst_mem {N : List It} (h : 0 < N.length) : lst N ∈ N := by
  cases N with
  | nil => simp at h
  | cons x r => exact (lst_fold r x).1
theorem lst_le {N : List It} {y : It} (hy : y ∈ N) : le (lst N) y := by
  cases N with
  | nil => cases hy
  | cons x r => exact (lst_fold r x).2 y hy
theorem lst_is {N : List It} {x : It} (hx : x ∈ N) (h : ∀ y ∈ N, le x y) : x = lst N := le_anti (h _ (lst_mem (List.length_pos_of_mem hx))) (lst_le hx)
theorem lst_perm {N L : List It} (p : N.Perm L) : lst N = lst L := by
  by_cases h : 0 < N.length
  · exact lst_is (p.mem_iff.1 (lst_mem h)) fun y hy => lst_le (p.mem_iff.2 hy)
  · have h1 : N = [] := List.length_eq_zero_iff.1 (by omega)
    subst h1
    rw [List.nil_perm.1 p]
/-- The first of a heap is the least one. -/
theorem Heap.first {L N : List It} (h : Heap L L.length) (hl : 0 < L.length) (p : L.Perm N) : at' L 0 = lst N := by
  rw [← lst_perm p]
  refine lst_is (at_mem hl) fun y hy => ?_
  obtain ⟨k, hk, e⟩ := List.mem_iff_getElem.1 hy
  have := h.le_root k hk
  rwa [at_of_get (List.getElem?_eq_getElem hk), e] at this
theorem Idx.none_iff {L N : List It} {M : Int → Option Int} (h : Idx L M) (p : L.Perm N) (f : Int) : M f = none ↔ hasF N f = false := by
  rw [← hasF_perm p f]
  constructor
  · intro e
    apply ix_none
    intro j hj e2
    have := h.at_ j hj
    rw [e2, e] at this
    cases this
  · intro e
    cases hm : M f with
    | none => rfl
    | some v =>
      obtain ⟨k, _, hk, e2⟩ := h.of f v hm
      exact absurd e2 (hasF_not e _ (at_mem hk))
theorem Idx.some_ {L N : List It} {M : Int → Option Int} (h : Idx L M) (p : L.Perm N) {f : Int} (hf : hasF N f = true) : ∃ k : Nat, M f = some (k : Int) ∧ k < L.length ∧ (at' L k).1 = f ∧ (at' L k).2 = worV N f := by
  cases hm : M f with
  | none => rw [(h.none_iff p f).1 hm] at hf; cases hf
  | some v =>
    obtain ⟨k, e1, hk, e2⟩ := h.of f v hm
    refine ⟨k, by rw [e1], hk, e2, ?_⟩
    unfold worV
    rw [if_pos hf, at_ix (h.dst.perm p) (p.mem_iff.1 (at_mem hk)) e2]
theorem worV_perm {N L : List It} (hd : Dst N) (p : N.Perm L) (f : Int) : worV N f = worV L f := by
  unfold worV
  rw [hasF_perm p f]
  split
  · rename_i h
    have h' : hasF N f = true := by rw [hasF_perm p f]; exact h
    rw [at_ix (hd.perm p) (p.mem_iff.1 (at_mem (ix_lt.2 h'))) (ix_at h')]
  · rfl
end Go.Proofs.Ytgkliffhdibghaa
