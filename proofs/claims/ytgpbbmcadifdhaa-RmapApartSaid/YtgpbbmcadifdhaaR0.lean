/- Spots on frames, without the program: a list that rises by frames, spaces, pages; what each call answers over it, and what becomes of it. -/
import Derived.Lib.Hide
namespace Go.Proofs.Ytgpbbmcadifdhaa

abbrev It := Int × Int
abbrev On := Int × It
/-- A number that fits. -/
def Fits (n : Int) : Prop := -9223372036854775808 ≤ n ∧ n ≤ 9223372036854775807
def sltB (a b : It) : Bool := decide (a.1 < b.1 ∨ a.1 = b.1 ∧ a.2 < b.2)
def oltB (x y : On) : Bool := decide (x.1 < y.1 ∨ x.1 = y.1 ∧ (x.2.1 < y.2.1 ∨ x.2.1 = y.2.1 ∧ x.2.2 < y.2.2))
theorem it_eq {a b : It} : a = b ↔ a.1 = b.1 ∧ a.2 = b.2 := by obtain ⟨a1, a2⟩ := a; obtain ⟨b1, b2⟩ := b; simp
theorem on_eq {a b : On} : a = b ↔ a.1 = b.1 ∧ a.2.1 = b.2.1 ∧ a.2.2 = b.2.2 := by obtain ⟨a1, a2, a3⟩ := a; obtain ⟨b1, b2, b3⟩ := b; simp
theorem olt_trans {x y z : On} (h : oltB x y = true) (k : oltB y z = true) : oltB x z = true := by
  simp only [oltB, decide_eq_true_eq] at *; omega
theorem olt_ne {x y : On} (h : oltB x y = true) : x ≠ y := by
  rintro rfl; simp only [oltB, decide_eq_true_eq] at h; omega
theorem olt_not {x y : On} (h : oltB x y = true) : oltB y x = false := by
  simp only [oltB, decide_eq_true_eq, decide_eq_false_iff_not] at *; omega
theorem olt_or {x y : On} (h : x ≠ y) (k : oltB x y = false) : oltB y x = true := by
  rw [Ne, on_eq] at h
  simp only [oltB, decide_eq_true_eq, decide_eq_false_iff_not] at *; omega
theorem slt_trans {x y z : It} (h : sltB x y = true) (k : sltB y z = true) : sltB x z = true := by
  simp only [sltB, decide_eq_true_eq] at *; omega
theorem slt_ne {x y : It} (h : sltB x y = true) : x ≠ y := by
  rintro rfl; simp only [sltB, decide_eq_true_eq] at h; omega
theorem slt_not {x y : It} (h : sltB x y = true) : sltB y x = false := by
  simp only [sltB, decide_eq_true_eq, decide_eq_false_iff_not] at *; omega
theorem slt_or {x y : It} (h : x ≠ y) (k : sltB x y = false) : sltB y x = true := by
  rw [Ne, it_eq] at h
  simp only [sltB, decide_eq_true_eq, decide_eq_false_iff_not] at *; omega
theorem slt_self (x : It) : sltB x x = false := by simp only [sltB, decide_eq_false_iff_not]; omega
theorem olt_self (x : On) : oltB x x = false := by simp only [oltB, decide_eq_false_iff_not]; omega
theorem olt_same (f : Int) (a b : It) : oltB (f, a) (f, b) = sltB a b := by
  simp [oltB, sltB]

/-- It rises. -/
def Srt (L : List On) : Prop := L.Pairwise (fun x y => oltB x y = true)
def Up (l : List It) : Prop := l.Pairwise (fun x y => sltB x y = true)
/-- A frame's spots. -/
def sps (L : List On) (f : Int) : List It := (L.filter (fun x => decide (x.1 = f))).map Prod.snd
def okF (f : Int) : Prop := 0 ≤ f ∧ f ≤ 1023
instance (f : Int) : Decidable (okF f) := by unfold okF; infer_instance
def okS (s : It) : Prop := 0 ≤ s.1 ∧ 0 ≤ s.2 ∧ s.2 ≤ 4095
instance (s : It) : Decidable (okS s) := by unfold okS; infer_instance
/-- All is in order. -/
structure Good (L : List On) : Prop where
  up : Srt L
  fr : ∀ x ∈ L, okF x.1
  sp : ∀ x ∈ L, okS x.2 ∧ Fits x.2.1
def ins (L : List On) (x : On) : List On := L.filter (fun y => oltB y x) ++ x :: L.filter (fun y => oltB x y)
def insI (l : List It) (s : It) : List It := l.filter (fun y => sltB y s) ++ s :: l.filter (fun y => sltB s y)
def adE (L : List On) (f : Int) (s : It) : Int := if ¬ (okF f ∧ okS s) then 3 else if (f, s) ∈ L then 7 else 0
def adL (L : List On) (f : Int) (s : It) : List On := if adE L f s = 0 then ins L (f, s) else L
def deE (L : List On) (f : Int) (s : It) : Int := if (f, s) ∈ L then 0 else 6
def deL (L : List On) (f : Int) (s : It) : List On := L.filter (fun x => decide (x ≠ (f, s)))
def moE (L : List On) (a b : Int) : Int := if ¬ okF b then 3 else if sps L a = [] then 6 else if sps L b ≠ [] then 7 else 0
def moS (a b : Int) (L : List On) (l : List It) : List On := l.foldl (fun L s => ins (deL L a s) (b, s)) L
def moL (L : List On) (a b : Int) : List On := if moE L a b = 0 then moS a b L (sps L a) else L

theorem mem_sps {L : List On} {f : Int} {s : It} : s ∈ sps L f ↔ (f, s) ∈ L := by
  unfold sps
  simp only [List.mem_map, List.mem_filter, decide_eq_true_eq]
  constructor
  · rintro ⟨⟨g, t⟩, ⟨h, rfl⟩, rfl⟩; exact h
  · intro h; exact ⟨(f, s), ⟨h, rfl⟩, rfl⟩
theorem sps_up {L : List On} (h : Srt L) (f : Int) : Up (sps L f) := by
  unfold Up sps
  rw [List.pairwise_map]
  refine (h.filter (fun x => decide (x.1 = f))).imp_of_mem ?_
  intro x y hx hy hxy
  have h1 := (List.mem_filter.1 hx).2
  have h2 := (List.mem_filter.1 hy).2
  simp only [decide_eq_true_eq] at h1 h2
  simp only [oltB, sltB, decide_eq_true_eq] at *
  omega
theorem sps_len (L : List On) (f : Int) : (sps L f).length ≤ L.length := by
  unfold sps; rw [List.length_map]; exact List.length_filter_le _ _
theorem up_nodup {l : List It} (h : Up l) : l.Nodup := h.imp fun k => slt_ne k
theorem srt_nodup {L : List On} (h : Srt L) : L.Nodup := h.imp fun k => olt_ne k
theorem filter_filter_map {α β : Type} (L : List α) (p q : α → Bool) (r : β → Bool) (m : α → β) (h : ∀ x ∈ L, q x = true → (p x = r (m x))) : ((L.filter p).filter q).map m = ((L.filter q).map m).filter r := by
  induction L with
  | nil => rfl
  | cons x t ih =>
    have ih := ih fun y hy => h y (List.mem_cons_of_mem _ hy)
    have hx := h x (List.mem_cons_self ..)
    by_cases hq : q x = true
    · have := hx hq
      by_cases hp : p x = true
      · rw [List.filter_cons_of_pos hp, List.filter_cons_of_pos hq, List.filter_cons_of_pos hq, List.map_cons, List.map_cons, List.filter_cons_of_pos (by rw [← this]; exact hp), ih]
      · rw [List.filter_cons_of_neg hp, List.filter_cons_of_pos hq, List.map_cons, List.filter_cons_of_neg (by rw [← this]; exact hp), ih]
    · by_cases hp : p x = true
      · rw [List.filter_cons_of_pos hp, List.filter_cons_of_neg hq, List.filter_cons_of_neg hq, ih]
      · rw [List.filter_cons_of_neg hp, List.filter_cons_of_neg hq, ih]
theorem sps_ins (L : List On) (f g : Int) (s : It) : sps (ins L (f, s)) g = if g = f then insI (sps L f) s else sps L g := by
  unfold ins
  by_cases e : g = f
  · subst e
    rw [if_pos rfl]
    unfold sps insI
    rw [List.filter_append, List.filter_cons_of_pos (by simp), List.map_append, List.map_cons]
    rw [filter_filter_map L (fun y => oltB y (g, s)) _ (fun y => sltB y s) _ (fun x _ hx => by simp only [decide_eq_true_eq] at hx; rw [← olt_same g, ← hx]), filter_filter_map L (fun y => oltB (g, s) y) _ (fun y => sltB s y) _ (fun x _ hx => by simp only [decide_eq_true_eq] at hx; rw [← olt_same g, ← hx])]
  · rw [if_neg e]
    unfold sps
    rw [List.filter_append, List.filter_cons_of_neg (by simpa using fun h : f = g => e h.symm), List.filter_filter, List.filter_filter]
    · rcases Int.lt_or_gt_of_ne e with h | h
      · have e1 : ∀ x ∈ L, (decide (x.1 = g) && oltB x (f, s)) = decide (x.1 = g) := fun x _ => by
          rw [Bool.eq_iff_iff]; simp only [oltB, Bool.and_eq_true, decide_eq_true_eq]; omega
        have e2 : ∀ x ∈ L, ¬ ((decide (x.1 = g) && oltB (f, s) x) = true) := fun x _ => by
          simp only [oltB, Bool.and_eq_true, decide_eq_true_eq]; omega
        rw [List.filter_congr e1, List.filter_eq_nil_iff.2 e2, List.append_nil]
      · have e1 : ∀ x ∈ L, (decide (x.1 = g) && oltB (f, s) x) = decide (x.1 = g) := fun x _ => by
          rw [Bool.eq_iff_iff]; simp only [oltB, Bool.and_eq_true, decide_eq_true_eq]; omega
        have e2 : ∀ x ∈ L, ¬ ((decide (x.1 = g) && oltB x (f, s)) = true) := fun x _ => by
          simp only [oltB, Bool.and_eq_true, decide_eq_true_eq]; omega
        rw [List.filter_congr e1, List.filter_eq_nil_iff.2 e2, List.nil_append]
theorem mem_ins {L : List On} {x y : On} (hx : x ∉ L) : y ∈ ins L x ↔ y = x ∨ y ∈ L := by
  unfold ins
  simp only [List.mem_append, List.mem_filter, List.mem_cons]
  constructor
  · rintro (⟨h, _⟩ | rfl | ⟨h, _⟩)
    · exact Or.inr h
    · exact Or.inl rfl
    · exact Or.inr h
  · rintro (rfl | h)
    · exact Or.inr (Or.inl rfl)
    · by_cases k : oltB y x = true
      · exact Or.inl ⟨h, k⟩
      · exact Or.inr (Or.inr ⟨h, olt_or (fun e => hx (e ▸ h)) (by simpa using k)⟩)
theorem ins_up {L : List On} (h : Srt L) (x : On) : Srt (ins L x) := by
  unfold Srt ins
  rw [List.pairwise_append]
  refine ⟨h.filter _, ?_, ?_⟩
  · rw [List.pairwise_cons]
    exact ⟨fun y hy => (List.mem_filter.1 hy).2, h.filter _⟩
  · intro a ha b hb
    have h1 := (List.mem_filter.1 ha).2
    rcases List.mem_cons.1 hb with rfl | hb
    · exact h1
    · exact olt_trans h1 (List.mem_filter.1 hb).2
theorem split_len {L : List On} {x : On} (hx : x ∉ L) : (L.filter (fun y => oltB y x)).length + (L.filter (fun y => oltB x y)).length = L.length := by
  induction L with
  | nil => rfl
  | cons y t ih =>
    have ih := ih fun h => hx (List.mem_cons_of_mem _ h)
    have hne : y ≠ x := fun e => hx (e ▸ List.mem_cons_self ..)
    by_cases k : oltB y x = true
    · simp only [List.filter_cons, k, olt_not k, if_true, Bool.false_eq_true, if_false, List.length_cons]; omega
    · have k' : oltB y x = false := by simpa using k
      simp only [List.filter_cons, k', olt_or hne k', if_true, Bool.false_eq_true, if_false, List.length_cons]; omega
theorem ins_len {L : List On} {x : On} (hx : x ∉ L) : (ins L x).length = L.length + 1 := by
  unfold ins
  have := split_len hx
  rw [List.length_append, List.length_cons]; omega
theorem sps_del (L : List On) (f g : Int) (s : It) : sps (deL L f s) g = if g = f then (sps L f).filter (fun y => decide (y ≠ s)) else sps L g := by
  unfold deL
  by_cases e : g = f
  · subst e
    rw [if_pos rfl]
    unfold sps
    exact filter_filter_map L _ _ (fun y => decide (y ≠ s)) _ (fun x _ hx => by
      simp only [decide_eq_true_eq] at hx
      obtain ⟨a, b⟩ := x
      simp only at hx
      subst hx
      simp)
  · rw [if_neg e]
    unfold sps
    rw [List.filter_filter]
    congr 1
    refine List.filter_congr fun x _ => ?_
    rw [Bool.eq_iff_iff]
    simp only [Bool.and_eq_true, decide_eq_true_eq]
    constructor
    · exact fun h => h.1
    · intro h
      refine ⟨h, fun k => e ?_⟩
      rw [← h, k]
theorem del_sub (L : List On) (f : Int) (s : It) : (deL L f s).Sublist L := List.filter_sublist
theorem del_up {L : List On} (h : Srt L) (f : Int) (s : It) : Srt (deL L f s) := h.sublist (del_sub L f s)
theorem mem_del {L : List On} {f : Int} {s : It} {y : On} : y ∈ deL L f s ↔ y ∈ L ∧ y ≠ (f, s) := by
  unfold deL; rw [List.mem_filter]; simp
theorem del_len {L : List On} (h : Srt L) {f : Int} {s : It} (hm : (f, s) ∈ L) : (deL L f s).length + 1 = L.length := by
  have hn := srt_nodup h
  unfold deL
  clear h
  induction L with
  | nil => cases hm
  | cons y t ih =>
    rw [List.nodup_cons] at hn
    by_cases e : y = (f, s)
    · subst e
      rw [List.filter_cons_of_neg (by simp)]
      have : t.filter (fun x => decide (x ≠ (f, s))) = t := List.filter_eq_self.2 fun z hz => by
        simp only [decide_eq_true_eq]; exact fun k => hn.1 (k ▸ hz)
      rw [this, List.length_cons]
    · rw [List.filter_cons_of_pos (by simpa using e), List.length_cons, List.length_cons]
      have hm' : (f, s) ∈ t := by
        rcases List.mem_cons.1 hm with h | h
        · exact absurd h.symm e
        · exact h
      rw [ih hm' hn.2]
theorem del_none {L : List On} {f : Int} {s : It} (hm : (f, s) ∉ L) : deL L f s = L :=
  List.filter_eq_self.2 fun z hz => by simp only [decide_eq_true_eq]; exact fun k => hm (k ▸ hz)

/-! Good stays. -/
theorem Good.nil : Good [] := ⟨List.Pairwise.nil, fun _ h => (by cases h), fun _ h => (by cases h)⟩
theorem Good.ins {L : List On} (h : Good L) {f : Int} {s : It} (hf : okF f) (hs : okS s) (hi : Fits s.1) (hx : (f, s) ∉ L) : Good (ins L (f, s)) :=
  ⟨ins_up h.up _, fun y hy => by rcases (mem_ins hx).1 hy with rfl | hy; exact hf; exact h.fr y hy, fun y hy => by rcases (mem_ins hx).1 hy with rfl | hy; exact ⟨hs, hi⟩; exact h.sp y hy⟩
theorem Good.del {L : List On} (h : Good L) (f : Int) (s : It) : Good (deL L f s) :=
  ⟨del_up h.up f s, fun y hy => h.fr y (mem_del.1 hy).1, fun y hy => h.sp y (mem_del.1 hy).1⟩
theorem Good.add {L : List On} (h : Good L) (f : Int) {s : It} (hi : Fits s.1) : Good (adL L f s) := by
  unfold adL adE
  by_cases h1 : okF f ∧ okS s
  · by_cases h2 : (f, s) ∈ L
    · simp only [h1, h2]; exact h
    · simp only [h1, h2]; exact h.ins h1.1 h1.2 hi h2
  · simp only [h1]; exact h
theorem add_len {L : List On} (f : Int) (s : It) : (adL L f s).length ≤ L.length + 1 := by
  unfold adL adE
  by_cases h1 : okF f ∧ okS s
  · by_cases h2 : (f, s) ∈ L
    · simp only [h1, h2]; simp
    · simp only [h1, h2]; rw [if_pos (by simp), ins_len h2]; omega
  · simp only [h1]; simp
/-- A moving under way: those of l1 have gone to b. -/
structure Mid (L : List On) (a b : Int) (l1 l2 : List It) (N : List On) : Prop where
  good : Good N
  len : N.length = L.length
  src : sps N a = l2
  dst : sps N b = l1
  oth : ∀ f, f ≠ a → f ≠ b → sps N f = sps L f
theorem ins_last {l : List It} {s : It} (h : ∀ x ∈ l, sltB x s = true) : insI l s = l ++ [s] := by
  unfold insI
  rw [List.filter_eq_self.2 (fun x hx => by simpa using h x hx), List.filter_eq_nil_iff.2 (fun x hx => by rw [slt_not (h x hx)]; decide)]
theorem Mid.step {L N : List On} {a b : Int} {l1 l2 : List It} {s : It} (h : Mid L a b l1 (s :: l2) N) (hab : a ≠ b) (hb : okF b) (hu : Up (l1 ++ s :: l2)) : Mid L a b (l1 ++ [s]) l2 (ins (deL N a s) (b, s)) ∧ (a, s) ∈ N ∧ (b, s) ∉ deL N a s ∧ okS s ∧ Fits s.1 := by
  have hm : (a, s) ∈ N := mem_sps.1 (by rw [h.src]; exact List.mem_cons_self ..)
  have hs := h.good.sp _ hm
  unfold Up at hu
  rw [List.pairwise_append, List.pairwise_cons] at hu
  have hn : (b, s) ∉ deL N a s := fun k => by
    have := mem_sps.2 (mem_del.1 k).1
    rw [h.dst] at this
    have := hu.2.2 s this s (List.mem_cons_self ..)
    rw [slt_self] at this; cases this
  refine ⟨⟨(h.good.del a s).ins hb hs.1 hs.2 hn, ?_, ?_, ?_, ?_⟩, hm, hn, hs.1, hs.2⟩
  · rw [ins_len hn, del_len h.good.up hm, h.len]
  · rw [sps_ins, if_neg hab, sps_del, if_pos rfl, h.src, List.filter_cons_of_neg (by simp)]
    exact List.filter_eq_self.2 fun x hx => by simp only [decide_eq_true_eq]; exact fun e => slt_ne (hu.2.1.1 x hx) e.symm
  · rw [sps_ins, if_pos rfl, sps_del, if_neg (Ne.symm hab), h.dst]
    exact ins_last fun x hx => hu.2.2 x hx s (List.mem_cons_self ..)
  · intro f h1 h2
    rw [sps_ins, if_neg h2, sps_del, if_neg h1, h.oth f h1 h2]
theorem Mid.all {L : List On} {a b : Int} (hab : a ≠ b) (hb : okF b) : ∀ (l2 l1 : List It) (N : List On), Mid L a b l1 l2 N → Up (l1 ++ l2) → Mid L a b (l1 ++ l2) [] (moS a b N l2)
  | [], l1, N, h, _ => by rw [List.append_nil]; exact h
  | s :: l2, l1, N, h, hu => by
    have h1 := (h.step hab hb hu).1
    have := Mid.all hab hb l2 (l1 ++ [s]) _ h1 (by rw [List.append_assoc]; exact hu)
    rw [List.append_assoc] at this
    exact this
theorem Good.mid {L : List On} (h : Good L) {a b : Int} (hb : sps L b = []) : Mid L a b [] (sps L a) L := ⟨h, rfl, rfl, hb, fun _ _ _ => rfl⟩
theorem mo_zero {L : List On} {a b : Int} (h : moE L a b = 0) : okF b ∧ sps L a ≠ [] ∧ sps L b = [] ∧ a ≠ b := by
  unfold moE at h
  split at h
  · cases h
  · split at h
    · cases h
    · split at h
      · cases h
      · rename_i h1 h2 h3
        have h3 : sps L b = [] := Classical.byContradiction h3
        exact ⟨Classical.byContradiction h1, h2, h3, fun e => h2 (e ▸ h3)⟩
theorem Good.moved {L : List On} (h : Good L) {a b : Int} (he : moE L a b = 0) : Mid L a b (sps L a) [] (moL L a b) := by
  obtain ⟨h1, h2, h3, h4⟩ := mo_zero he
  unfold moL
  rw [if_pos he]
  exact Mid.all h4 h1 (sps L a) [] L (h.mid h3) (by rw [List.nil_append]; exact sps_up h.up a)
theorem Good.move {L : List On} (h : Good L) (a b : Int) : Good (moL L a b) ∧ (moL L a b).length = L.length := by
  by_cases he : moE L a b = 0
  · have := h.moved he; exact ⟨this.good, this.len⟩
  · unfold moL; rw [if_neg he]; exact ⟨h, rfl⟩
theorem sps_move {L : List On} (h : Good L) {a b : Int} (he : moE L a b = 0) (f : Int) : sps (moL L a b) f = if f = b then sps L a else if f = a then [] else sps L f := by
  have := h.moved he
  by_cases h1 : f = b
  · subst h1; rw [if_pos rfl, this.dst]
  · by_cases h2 : f = a
    · subst h2; rw [if_neg h1, if_pos rfl, this.src]
    · rw [if_neg h1, if_neg h2, this.oth f h2 h1]
/-- A list that rises is known by its frames' spots. -/
theorem srt_ext {L N : List On} (h : Srt L) (k : Srt N) (e : ∀ f, sps L f = sps N f) : L = N := by
  have hm : ∀ x, x ∈ L ↔ x ∈ N := fun ⟨f, s⟩ => by rw [← mem_sps, ← mem_sps, e]
  refine List.Perm.eq_of_pairwise (le := fun x y => oltB x y = true) (fun x y _ _ h1 h2 => ?_) h k ((List.perm_ext_iff_of_nodup (srt_nodup h) (srt_nodup k)).2 hm)
  rw [olt_not h1] at h2; cases h2
/-- Moved there and back all is as it was. -/
theorem move_back {L : List On} (h : Good L) {a b : Int} (he : moE L a b = 0) (ha : okF a) : moE (moL L a b) b a = 0 ∧ moL (moL L a b) b a = L := by
  obtain ⟨h1, h2, h3, h4⟩ := mo_zero he
  have hs := sps_move h he
  have e0 : moE (moL L a b) b a = 0 := by
    unfold moE
    rw [hs, if_pos rfl, hs a, if_neg h4, if_pos rfl, if_neg (by simpa using ha), if_neg h2, if_neg (by simp)]
  have g := (h.move a b).1
  refine ⟨e0, srt_ext (g.move b a).1.up h.up fun f => ?_⟩
  rw [sps_move g e0, hs, hs, if_pos rfl]
  by_cases e1 : f = a
  · subst e1; rw [if_pos rfl]
  · by_cases e2 : f = b
    · subst e2; rw [if_neg e1, if_pos rfl, h3]
    · rw [if_neg e1, if_neg e2, if_neg e2, if_neg e1]
theorem has_frame {L : List On} (h : Good L) {a : Int} (k : sps L a ≠ []) : okF a := by
  obtain ⟨s, hs⟩ := List.exists_mem_of_ne_nil _ k
  exact h.fr _ (mem_sps.1 hs)

/-! Which frames have spots. -/
def frg : Option Int → List On → List Int
  | _, [] => []
  | p, x :: r => if p = some x.1 then frg p r else x.1 :: frg (some x.1) r
def frs (L : List On) : List Int := frg none L
/-- The frame that stands last. -/
def lasF : Option Int → List On → Option Int
  | p, [] => p
  | _, y :: r => lasF (some y.1) r
theorem lasF_snoc : ∀ (L : List On) (p : Option Int) (y : On), lasF p (L ++ [y]) = some y.1
  | [], _, _ => rfl
  | z :: r, _, y => lasF_snoc r (some z.1) y
theorem frg_snoc : ∀ (L : List On) (p : Option Int) (x : On), frg p (L ++ [x]) = frg p L ++ (if lasF p L = some x.1 then [] else [x.1])
  | [], p, x => by
    simp only [List.nil_append, frg, lasF]
    congr
  | y :: r, p, x => by
    have ih := fun q => frg_snoc r q x
    rw [List.cons_append]
    simp only [frg, lasF]
    by_cases h : p = some y.1
    · rw [if_pos h, if_pos h, ih p, h]
      congr
    · rw [if_neg h, if_neg h, ih (some y.1), List.cons_append]
      congr
/-- One place more. -/
theorem frs_next {L : List On} {i : Nat} (h : i < L.length) : frs (L.take (i + 1)) = frs (L.take i) ++ (if 0 < i ∧ (L.getD (i - 1) (0, 0, 0)).1 = (L.getD i (0, 0, 0)).1 then [] else [(L.getD i (0, 0, 0)).1]) := by
  unfold frs
  rw [List.take_succ_eq_append_getElem h, frg_snoc]
  have e1 : L.getD i (0, 0, 0) = L[i] := by rw [List.getD_eq_getElem?_getD, List.getElem?_eq_getElem h]; rfl
  rw [e1]
  congr 1
  cases i with
  | zero => simp [lasF]
  | succ j =>
    have e2 : L.getD (j + 1 - 1) (0, 0, 0) = L[j] := by rw [Nat.add_sub_cancel, List.getD_eq_getElem?_getD, List.getElem?_eq_getElem (by omega)]; rfl
    have e3 : lasF none (L.take (j + 1)) = some L[j].1 := by rw [List.take_succ_eq_append_getElem (by omega), lasF_snoc]
    rw [e2, e3]
    simp
theorem frg_mem : ∀ (L : List On) (p : Option Int), Srt L → (∀ q x, p = some q → x ∈ L → q ≤ x.1) → ∀ f, f ∈ frg p L ↔ p ≠ some f ∧ ∃ x ∈ L, x.1 = f
  | [], p, _, _, f => by simp [frg]
  | y :: r, p, h, hp, f => by
    unfold Srt at h
    rw [List.pairwise_cons] at h
    have hy : ∀ q x, some y.1 = some q → x ∈ r → q ≤ x.1 := fun q x e hx => by
      injection e with e
      have := h.1 x hx
      simp only [oltB, decide_eq_true_eq] at this; omega
    simp only [frg]
    by_cases e : p = some y.1
    · rw [if_pos e, frg_mem r p h.2 (fun q x e1 hx => hp q x e1 (List.mem_cons_of_mem _ hx)) f]
      constructor
      · rintro ⟨h1, x, hx, rfl⟩; exact ⟨h1, x, List.mem_cons_of_mem _ hx, rfl⟩
      · rintro ⟨h1, x, hx, rfl⟩
        rcases List.mem_cons.1 hx with rfl | hx
        · exact absurd e h1
        · exact ⟨h1, x, hx, rfl⟩
    · rw [if_neg e, List.mem_cons, frg_mem r (some y.1) h.2 hy f]
      constructor
      · rintro (rfl | ⟨h1, x, hx, rfl⟩)
        · exact ⟨e, y, List.mem_cons_self .., rfl⟩
        · refine ⟨fun e1 => ?_, x, List.mem_cons_of_mem _ hx, rfl⟩
          have h2 := hp _ y e1 (List.mem_cons_self ..)
          have h3 := hy _ x rfl hx
          exact h1 (congrArg some (by omega))
      · rintro ⟨h1, x, hx, rfl⟩
        by_cases e1 : x.1 = y.1
        · exact Or.inl e1
        · rcases List.mem_cons.1 hx with rfl | hx
          · exact absurd rfl e1
          · exact Or.inr ⟨fun k => e1 (by injection k with k; exact k.symm), x, hx, rfl⟩
theorem frg_up : ∀ (L : List On) (p : Option Int), Srt L → (∀ q x, p = some q → x ∈ L → q ≤ x.1) → (frg p L).Pairwise (· < ·) ∧ ∀ f ∈ frg p L, ∀ q, p = some q → q < f
  | [], p, _, _ => ⟨List.Pairwise.nil, fun _ h => (by cases h)⟩
  | y :: r, p, h, hp => by
    have h0 := h
    unfold Srt at h
    rw [List.pairwise_cons] at h
    have hy : ∀ q x, some y.1 = some q → x ∈ r → q ≤ x.1 := fun q x e hx => by
      injection e with e
      have := h.1 x hx
      simp only [oltB, decide_eq_true_eq] at this; omega
    have hm := frg_mem (y :: r) p h0 hp
    refine ⟨?_, fun f hf q e => ?_⟩
    · simp only [frg]
      by_cases e : p = some y.1
      · rw [if_pos e]; exact (frg_up r p h.2 (fun q x e1 hx => hp q x e1 (List.mem_cons_of_mem _ hx))).1
      · rw [if_neg e, List.pairwise_cons]
        have := frg_up r (some y.1) h.2 hy
        exact ⟨fun f hf => this.2 f hf _ rfl, this.1⟩
    · obtain ⟨h1, x, hx, rfl⟩ := (hm f).1 hf
      have := hp q x e hx
      have : q ≠ x.1 := fun k => h1 (by rw [e, k])
      omega
theorem mem_frs {L : List On} (h : Srt L) {f : Int} : f ∈ frs L ↔ sps L f ≠ [] := by
  unfold frs
  rw [frg_mem L none h (fun _ _ e => (by cases e))]
  constructor
  · rintro ⟨_, ⟨g, s⟩, hx, rfl⟩
    exact List.ne_nil_of_mem (mem_sps.2 hx)
  · intro k
    obtain ⟨s, hs⟩ := List.exists_mem_of_ne_nil _ k
    exact ⟨(by simp), (f, s), mem_sps.1 hs, rfl⟩
theorem frs_up {L : List On} (h : Srt L) : (frs L).Pairwise (· < ·) := (frg_up L none h (fun _ _ e => (by cases e))).1
theorem frg_len : ∀ (L : List On) (p : Option Int), (frg p L).length ≤ L.length
  | [], _ => Nat.le_refl _
  | y :: r, p => by
    simp only [frg]
    split
    · have := frg_len r p; simp only [List.length_cons]; omega
    · have := frg_len r (some y.1); simp only [List.length_cons]; omega
theorem frs_len (L : List On) : (frs L).length ≤ L.length := frg_len L none
/-- What is sorted of the frames is them. -/
theorem frs_sorted {L : List On} (h : Srt L) {ss : List Int} (hn : ss.Nodup) (hm : ∀ f, f ∈ ss ↔ sps L f ≠ []) : ss.mergeSort (fun x y => decide (x ≤ y)) = frs L := by
  have tr : ∀ a b c : Int, (fun x y => decide (x ≤ y)) a b = true → (fun x y => decide (x ≤ y)) b c = true → (fun x y => decide (x ≤ y)) a c = true := fun a b c h1 h2 => by simp only [decide_eq_true_eq] at *; omega
  have to : ∀ a b : Int, ((fun x y => decide (x ≤ y)) a b || (fun x y => decide (x ≤ y)) b a) = true := fun a b => by simp only [Bool.or_eq_true, decide_eq_true_eq]; omega
  have hf := frs_up h
  refine List.Perm.eq_of_pairwise (le := fun a b : Int => decide (a ≤ b) = true) (fun a b _ _ h1 h2 => ?_) (List.pairwise_mergeSort tr to ss) (hf.imp fun k => by simp only [decide_eq_true_eq]; omega) ((List.mergeSort_perm ss _).trans ((List.perm_ext_iff_of_nodup hn (hf.imp fun k => by omega)).2 fun f => by rw [hm, mem_frs h]))
  simp only [decide_eq_true_eq] at h1 h2
  omega

/-! All together. -/
def sumF (L : List On) : List Int → Int
  | [] => 0
  | f :: r => ((sps L f).length : Int) + sumF L r
theorem sps_cons (x : On) (L : List On) (f : Int) : (sps (x :: L) f).length = (sps L f).length + if x.1 = f then 1 else 0 := by
  unfold sps
  by_cases e : x.1 = f
  · rw [List.filter_cons_of_pos (by simpa using e)]; simp [e]
  · rw [List.filter_cons_of_neg (by simpa using e)]; simp [e]
theorem sumF_cons (x : On) (L : List On) : ∀ F : List Int, F.Nodup → sumF (x :: L) F = sumF L F + if x.1 ∈ F then 1 else 0
  | [], _ => by simp [sumF]
  | f :: r, h => by
    rw [List.nodup_cons] at h
    simp only [sumF, sps_cons, sumF_cons x L r h.2]
    by_cases e : x.1 = f
    · subst e
      simp [h.1]; omega
    · by_cases e2 : x.1 ∈ r
      · simp [e, e2]; omega
      · simp [e, e2]
theorem sumF_all : ∀ (L : List On) (F : List Int), F.Nodup → (∀ x ∈ L, x.1 ∈ F) → sumF L F = (L.length : Int)
  | [], F, _, _ => by
    have : ∀ F : List Int, sumF [] F = 0 := fun F => by
      induction F with
      | nil => rfl
      | cons f r ih => simp [sumF, sps, ih]
    rw [this]; rfl
  | x :: L, F, h, hm => by
    rw [sumF_cons x L F h, if_pos (hm x (List.mem_cons_self ..)), sumF_all L F h (fun y hy => hm y (List.mem_cons_of_mem _ hy))]
    simp
theorem sum_frs {L : List On} (h : Srt L) : sumF L (frs L) = (L.length : Int) :=
  sumF_all L _ ((frs_up h).imp fun k => by omega) fun x hx => (mem_frs h).2 (List.ne_nil_of_mem ((mem_sps (L := L) (f := x.1) (s := x.2)).2 hx))
theorem sumF_snoc (L : List On) (F : List Int) (f : Int) : sumF L (F ++ [f]) = sumF L F + ((sps L f).length : Int) := by
  induction F with
  | nil => simp [sumF]
  | cons g r ih => simp only [List.cons_append, sumF, ih]; omega

/-! A search in a list that rises. -/
def cutS (s : It) (l : List It) : Nat := l.countP (fun y => sltB y s)
theorem cut_take : ∀ (l : List It), Up l → ∀ s, l.filter (fun y => sltB y s) = l.take (cutS s l)
  | [], _, _ => rfl
  | y :: r, h, s => by
    unfold Up at h
    rw [List.pairwise_cons] at h
    unfold cutS
    by_cases e : sltB y s = true
    · rw [List.filter_cons_of_pos (by simpa using e), List.countP_cons_of_pos (by simpa using e), List.take_succ_cons, cut_take r h.2 s]; rfl
    · have e0 : ∀ z ∈ r, ¬ sltB z s = true := fun z hz k => e (slt_trans (h.1 z hz) k)
      rw [List.filter_cons_of_neg (by simpa using e), List.countP_cons_of_neg (by simpa using e), List.filter_eq_nil_iff.2 (fun z hz => by simpa using e0 z hz), List.countP_eq_zero.2 (fun z hz => by simpa using e0 z hz), List.take_zero]
theorem cut_drop : ∀ (l : List It), Up l → ∀ s, s ∉ l → l.filter (fun y => sltB s y) = l.drop (cutS s l)
  | [], _, _, _ => rfl
  | y :: r, h, s, hs => by
    unfold Up at h
    rw [List.pairwise_cons] at h
    unfold cutS
    have hy : y ≠ s := fun e => hs (e ▸ List.mem_cons_self ..)
    by_cases e : sltB y s = true
    · rw [List.filter_cons_of_neg (by rw [slt_not e]; decide), List.countP_cons_of_pos (by simpa using e), List.drop_succ_cons, cut_drop r h.2 s (fun k => hs (List.mem_cons_of_mem _ k))]; rfl
    · have e1 : sltB s y = true := slt_or hy (by simpa using e)
      have e0 : ∀ z ∈ r, sltB s z = true := fun z hz => slt_trans e1 (h.1 z hz)
      rw [List.filter_cons_of_pos (by simpa using e1), List.filter_eq_self.2 (fun z hz => by simpa using e0 z hz), List.countP_cons_of_neg (by simpa using e), List.countP_eq_zero.2 (fun z hz => by rw [slt_not (e0 z hz)]; decide), List.drop_zero]
theorem cut_le (s : It) (l : List It) : cutS s l ≤ l.length := List.countP_le_length
theorem insI_cut {l : List It} (h : Up l) {s : It} (hs : s ∉ l) : insI l s = l.take (cutS s l) ++ s :: l.drop (cutS s l) := by
  unfold insI; rw [cut_take l h s, cut_drop l h s hs]
theorem cut_mem : ∀ (l : List It), Up l → ∀ s, s ∈ l → l[cutS s l]? = some s ∧ l.eraseIdx (cutS s l) = l.filter (fun y => decide (y ≠ s))
  | [], _, _, hs => by cases hs
  | y :: r, h, s, hs => by
    have hn := up_nodup h
    rw [List.nodup_cons] at hn
    unfold Up at h
    rw [List.pairwise_cons] at h
    unfold cutS
    by_cases e : y = s
    · subst e
      rw [List.countP_cons_of_neg (by rw [slt_self]; decide), List.countP_eq_zero.2 (fun z hz => by rw [slt_not (h.1 z hz)]; decide)]
      refine ⟨rfl, ?_⟩
      rw [List.eraseIdx_cons_zero, List.filter_cons_of_neg (by simp)]
      exact (List.filter_eq_self.2 fun z hz => by simp only [decide_eq_true_eq]; exact fun k => hn.1 (k ▸ hz)).symm
    · have hs' : s ∈ r := by
        rcases List.mem_cons.1 hs with k | k
        · exact absurd k.symm e
        · exact k
      obtain ⟨h1, h2⟩ := cut_mem r h.2 s hs'
      rw [List.countP_cons_of_pos (by simpa using h.1 s hs')]
      refine ⟨by rw [List.getElem?_cons_succ]; exact h1, ?_⟩
      rw [List.eraseIdx_cons_succ, List.filter_cons_of_pos (by simpa using e)]
      exact congrArg _ h2
theorem cut_lt {l : List It} (h : Up l) {s : It} (hs : s ∈ l) : cutS s l < l.length := (List.getElem?_eq_some_iff.1 (cut_mem l h s hs).1).1
theorem cut_below {l : List It} (h : Up l) (s : It) {j : Nat} (hj : j < l.length) : sltB l[j] s = true ↔ j < cutS s l := by
  have e := cut_take l h s
  constructor
  · intro k
    refine Classical.byContradiction fun hn => ?_
    have hm : l[j] ∈ l.take (cutS s l) := by rw [← e]; exact List.mem_filter.2 ⟨List.getElem_mem hj, by simpa using k⟩
    obtain ⟨i, hi, he⟩ := List.mem_take_iff_getElem.1 hm
    have h1 : i < j := by omega
    have := (List.pairwise_iff_getElem.1 h) i j (by omega) hj h1
    rw [he, slt_self] at this
    cases this
  · intro k
    have hm : l[j] ∈ l.take (cutS s l) := List.mem_take_iff_getElem.2 ⟨j, by omega, rfl⟩
    rw [← e] at hm
    simpa using (List.mem_filter.1 hm).2
theorem cut_there {l : List It} (h : Up l) (s : It) : s ∈ l ↔ ∃ hj : cutS s l < l.length, l[cutS s l] = s := by
  constructor
  · intro k
    refine ⟨cut_lt h k, ?_⟩
    have := (cut_mem l h s k).1
    rw [List.getElem?_eq_getElem (cut_lt h k)] at this
    injection this
  · rintro ⟨hj, e⟩
    rw [← e]; exact List.getElem_mem hj
end Go.Proofs.Ytgpbbmcadifdhaa
