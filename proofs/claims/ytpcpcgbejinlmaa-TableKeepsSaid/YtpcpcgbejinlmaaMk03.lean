/- Plain facts of package walk, without the program: what an entry's place answers, what an entry says at a level, and what a walk comes to, over the list of a memory's words. -/
import Derived.Test.YtpcpcgbejinlmaaMk00
import Derived.Test.YtpcpcgbejinlmaaMk01
import Derived.Test.YtpcpcgbejinlmaaMk02
namespace Go.Proofs.Ytpcpcgbejinlmaa
open Go.RowKit
def inT (n : Nat) (t i : Int) : Bool := decide (0 ≤ t) && decide (t < (n : Int) / 8) && decide (0 ≤ i) && decide (i < 8)
def errT (n : Nat) (t i : Int) : Int := if inT n t i = true then 0 else 3
def wd (ws : List Int) (t i : Int) : Int := if inT ws.length t i = true then ws.getD (8 * t + i).toNat 0 else 0
def wdE (n : Nat) (x t i : Int) : Int := if inT n t i = true then unErr x else 3
def ptE (n : Nat) (c t i : Int) : Int := if inT n t i = true then c else 3
def ptL (ws : List Int) (t i c v : Int) : List Int := if inT ws.length t i = true ∧ c = 0 then ws.set (8 * t + i).toNat v else ws
theorem inT_iff {n : Nat} {t i : Int} : inT n t i = true ↔ (0 ≤ t ∧ t < (n : Int) / 8 ∧ 0 ≤ i ∧ i < 8) := by
  simp [inT, and_assoc]
theorem inT_nat {n : Nat} {t i : Int} (h : inT n t i = true) : ∃ a b : Nat, t = a ∧ i = b ∧ a < n / 8 ∧ b < 8 := by
  rw [inT_iff] at h
  exact ⟨t.toNat, i.toNat, by omega, by omega, by omega, by omega⟩
theorem wd_bound {ws : List Int} (h : Words ws) (t i : Int) : 0 ≤ wd ws t i ∧ wd ws t i < 18446744073709551616 := by
  unfold wd
  split
  · exact h.at_ _
  · omega
theorem wd_out {ws : List Int} {t i : Int} (h : inT ws.length t i = false) : wd ws t i = 0 := by simp [wd, h]
theorem un_zero : unE 0 = agg0 := by
  have h : unOK 0 = true := by decide
  rw [unE_ok h]
  have : ∀ b, onB 0 b = false := fun b => by simp [onB]
  simp [this, agg0]
theorem errT_in {n : Nat} {t i : Int} (h : inT n t i = true) : errT n t i = 0 := by simp [errT, h]
theorem errT_out {n : Nat} {t i : Int} (h : inT n t i = false) : errT n t i = 3 := by simp [errT, h]
theorem ptL_length (ws : List Int) (t i c v : Int) : (ptL ws t i c v).length = ws.length := by unfold ptL; split <;> simp
theorem addr_ok {n a b : Nat} (ha : a < n / 8) (hb : b < 8) : errW n ((a : Int) * 64 + (b : Int) * 8) = 0 := by
  unfold errW
  rw [if_neg (by omega), if_pos (by omega)]
theorem addr_ld {ws : List Int} {a b : Nat} (ha : a < ws.length / 8) (hb : b < 8) : ldV ws ((a : Int) * 64 + (b : Int) * 8) = wd ws a b := by
  have hi : inT ws.length a b = true := inT_iff.2 ⟨by omega, by omega, by omega, by omega⟩
  unfold ldV wd
  rw [if_pos (addr_ok ha hb), if_pos hi]
  congr 1
  omega
theorem addr_st {ws : List Int} {a b : Nat} (ha : a < ws.length / 8) (hb : b < 8) (v : Int) : stL ws ((a : Int) * 64 + (b : Int) * 8) v = ptL ws a b 0 v := by
  have hi : inT ws.length a b = true := inT_iff.2 ⟨by omega, by omega, by omega, by omega⟩
  unfold stL ptL
  rw [if_pos (addr_ok ha hb), if_pos ⟨hi, rfl⟩]
  congr 1
  omega
def od (l : Int) (h : Bool) : Int := if h = true then l * 3 else 0
def sayB (F l : Int) (ok : Bool) (f : Int) (p w h k u d : Bool) : Int :=
  if ok = false then 0 else if k = true ∧ 0 < l then 0 else if h = true ∧ (l = 0 ∨ l = 3) then 0 else if noB f p w h k u d = true then 1
  else if evB f (od l h) = false ∨ F - 2 ^ (od l h).toNat < f then 0 else if l = 0 ∨ h = true then 3 else 2
def say (F l x : Int) : Int := sayB F l (unOK x) (unF x) (unB x 0) (unB x 1) (unB x 7) (unB x 9) (unB x 5) (unB x 6)
theorem sayB_cases (F l : Int) (ok : Bool) (f : Int) (p w h k u d : Bool) : sayB F l ok f p w h k u d = 0 ∨ sayB F l ok f p w h k u d = 1 ∨ sayB F l ok f p w h k u d = 2 ∨ sayB F l ok f p w h k u d = 3 := by
  unfold sayB
  split
  · simp
  split
  · simp
  split
  · simp
  split
  · simp
  split
  · simp
  split <;> simp
theorem say_cases (F l x : Int) : say F l x = 0 ∨ say F l x = 1 ∨ say F l x = 2 ∨ say F l x = 3 := sayB_cases ..
theorem say_further {F l x : Int} (h : say F l x = 2) : l ≠ 0 ∧ unB x 7 = false ∧ unF x < F ∧ unOK x = true := by
  unfold say sayB at h
  split at h
  · omega
  split at h
  · omega
  split at h
  · omega
  split at h
  · omega
  split at h
  · omega
  rename_i hf
  split at h
  · omega
  rename_i h1 _ _ _ hl
  simp only [not_or, Bool.not_eq_true, Bool.not_eq_false] at h1 hl hf
  refine ⟨hl.1, hl.2, ?_, h1⟩
  have := hf.2
  simp [od, hl.2] at this
  omega
theorem un_frame (x : Int) : 0 ≤ unF x ∧ unF x < 1048576 := by
  unfold unF
  split
  · rename_i h
    have hc : unChk x = 0 := by simp [unOK] at h; exact h.1
    have := chk_range hc
    omega
  · omega
theorem kinds {x : Int} (h : unOK x = true) : (unF x = 0 ∧ unB x 0 = false ∧ unB x 1 = false ∧ unB x 7 = false ∧ unB x 9 = false ∧ unB x 5 = false ∧ unB x 6 = false) ∨ (unB x 0 = true ∧ unB x 9 = false)
    ∨ (unB x 0 = false ∧ unB x 9 = true ∧ unB x 7 = false ∧ unB x 1 = false) := by
  have hc : unChk x = 0 := by simp [unOK] at h; exact h.1
  have hm : mayB (x / 4096) (onB x 0) (onB x 1) (onB x 7) (onB x 9) (onB x 5) (onB x 6) = true := by
    unfold unChk chkI at hc
    split at hc
    · omega
    split at hc
    · omega
    split at hc
    · assumption
    · omega
  have hf : unF x = x / 4096 := by simp [unF, h]
  have hb : ∀ b, unB x b = onB x b := fun b => by simp [unB, h]
  rw [hf, hb, hb, hb, hb, hb, hb]
  revert hm
  unfold mayB
  cases onB x 0 <;> cases onB x 9 <;> simp
  · intro a b c d e; exact ⟨a, b, c, d, e⟩
structure Fd where
  er : Int
  lv : Nat
  x : Int
  ts : List Int
  sl : Int
def fin (s : Int) (l : Nat) (x t i : Int) : Fd := if s = 1 then ⟨6, 0, 0, [t], i⟩ else if s = 3 then ⟨0, l, x, [t], i⟩ else ⟨5, 0, 0, [], 0⟩
def app (ts : List Int) (r : Fd) : Fd := if r.er = 5 then r else { r with ts := ts ++ r.ts }
def dg (p : Int) (l : Nat) : Int := p / 8 ^ l % 8
def wk (ws : List Int) (p : Int) : Nat → Int → Fd
  | 0, t => fin (say ((ws.length : Int) / 8) 0 (wd ws t (dg p 0))) 0 (wd ws t (dg p 0)) t (dg p 0)
  | l + 1, t => if say ((ws.length : Int) / 8) ((l + 1 : Nat) : Int) (wd ws t (dg p (l + 1))) = 2 then app [t] (wk ws p l (unF (wd ws t (dg p (l + 1)))))
    else fin (say ((ws.length : Int) / 8) ((l + 1 : Nat) : Int) (wd ws t (dg p (l + 1)))) (l + 1) (wd ws t (dg p (l + 1))) t (dg p (l + 1))
def fol (ws : List Int) (root p : Int) : Fd := if inT ws.length root 0 = true ∧ (0 ≤ p ∧ p ≤ 4095) then wk ws p 3 root else ⟨3, 0, 0, [], 0⟩
theorem app_app (ts us : List Int) (r : Fd) : app ts (app us r) = app (ts ++ us) r := by
  unfold app
  by_cases h : r.er = 5
  · simp [h]
  · simp [h]
theorem app_nil (r : Fd) : app [] r = r := by unfold app; split <;> simp
theorem wk_succ (ws : List Int) (p : Int) (l : Nat) (t : Int) : wk ws p (l + 1) t = if say ((ws.length : Int) / 8) ((l + 1 : Nat) : Int) (wd ws t (dg p (l + 1))) = 2 then app [t] (wk ws p l (unF (wd ws t (dg p (l + 1)))))
    else fin (say ((ws.length : Int) / 8) ((l + 1 : Nat) : Int) (wd ws t (dg p (l + 1)))) (l + 1) (wd ws t (dg p (l + 1))) t (dg p (l + 1)) := rfl
theorem wk_stop {ws : List Int} {p : Int} {l : Nat} {t : Int} (h : say ((ws.length : Int) / 8) l (wd ws t (dg p l)) ≠ 2) : wk ws p l t = fin (say ((ws.length : Int) / 8) l (wd ws t (dg p l))) l (wd ws t (dg p l)) t (dg p l) := by
  cases l with
  | zero => rfl
  | succ l => rw [wk_succ, if_neg h]
theorem wk_on {ws : List Int} {p : Int} {l : Nat} {t : Int} (h : say ((ws.length : Int) / 8) ((l + 1 : Nat) : Int) (wd ws t (dg p (l + 1))) = 2) : wk ws p (l + 1) t = app [t] (wk ws p l (unF (wd ws t (dg p (l + 1))))) := by
  rw [wk_succ, if_pos h]
structure Fine (l : Nat) (t : Int) (r : Fd) : Prop where
  er : r.er = 0 ∨ r.er = 5 ∨ r.er = 6
  ok : r.er = 0 → r.lv ≤ l ∧ r.ts.length = l + 1 - r.lv
  none : r.er = 6 → 1 ≤ r.ts.length ∧ r.ts.length ≤ l + 1
  bad : r.er = 5 → r.ts = []
  head : r.er ≠ 5 → ∃ ts, r.ts = t :: ts
theorem fin_fine (s : Int) (l : Nat) (x t i : Int) : Fine l t (fin s l x t i) := by
  unfold fin
  split
  · exact ⟨by simp, by simp, by simp, by simp, fun _ => ⟨_, rfl⟩⟩
  · split
    · exact ⟨by simp, by simp, by simp, by simp, fun _ => ⟨_, rfl⟩⟩
    · exact ⟨by simp, by simp, by simp, by simp, by simp⟩
theorem app_fine {l : Nat} {t u : Int} {r : Fd} (h : Fine l u r) : Fine (l + 1) t (app [t] r) := by
  unfold app
  split
  · rename_i h5
    exact ⟨h.er, fun h0 => by omega, fun h6 => by omega, h.bad, fun hn => absurd h5 hn⟩
  · rename_i h5
    refine ⟨h.er, fun h0 => ?_, fun h6 => ?_, fun hb => absurd hb h5, fun _ => ⟨_, rfl⟩⟩
    · have := h.ok h0
      exact ⟨by show r.lv ≤ l + 1; omega, by show ([t] ++ r.ts).length = l + 1 + 1 - r.lv; simp; omega⟩
    · have := h.none h6
      exact ⟨by show 1 ≤ ([t] ++ r.ts).length; simp, by show ([t] ++ r.ts).length ≤ _; simp; omega⟩
theorem wk_fine (ws : List Int) (p : Int) : ∀ (l : Nat) (t : Int), Fine l t (wk ws p l t)
  | 0, t => fin_fine ..
  | l + 1, t => by
    rw [wk_succ]
    split
    · exact app_fine (wk_fine ws p l _)
    · exact fin_fine ..
theorem fol_er (ws : List Int) (root p : Int) : (fol ws root p).er = 0 ∨ (fol ws root p).er = 3 ∨ (fol ws root p).er = 5 ∨ (fol ws root p).er = 6 := by
  unfold fol
  split
  · rcases (wk_fine ws p 3 root).er with h | h | h <;> simp [h]
  · simp
theorem dg_same {p q : Int} {v : Nat} (h : p / 8 ^ v = q / 8 ^ v) (l : Nat) (hl : v ≤ l) : dg p l = dg q l := by
  unfold dg
  obtain ⟨k, rfl⟩ : ∃ k, l = v + k := ⟨l - v, by omega⟩
  rw [Int.pow_add, ← Int.ediv_ediv_of_nonneg (Int.pow_nonneg (by omega)), ← Int.ediv_ediv_of_nonneg (Int.pow_nonneg (by omega)), h]
end Go.Proofs.Ytpcpcgbejinlmaa
/- Plain facts of package table, without the program: the tables below a table, over the list of a memory's words; what hangs on them alone, and what becomes of them when one word turns. -/
namespace Go.Proofs.Ytpcpcgbejinlmaa
open Go.RowKit
def FF (ws : List Int) : Int := (ws.length : Int) / 8
def tabs (ws : List Int) : Nat → Int → List Int
  | 0, t => [t]
  | l + 1, t => t :: (List.range 8).flatMap fun i : Nat => if say (FF ws) ((l + 1 : Nat) : Int) (wd ws t (i : Int)) = 2 then tabs ws l (unF (wd ws t (i : Int))) else []
def subt (ws : List Int) : Nat → Int → List Int
  | 0, _ => []
  | l + 1, x => if say (FF ws) ((l + 1 : Nat) : Int) x = 2 then tabs ws l (unF x) else []
theorem flat_nil (n : Nat) (f : Nat → List Int) (h : ∀ i, i < n → f i = []) : (List.range n).flatMap f = [] := by
  rw [List.flatMap_eq_nil_iff]
  intro i hi
  exact h i (List.mem_range.1 hi)
theorem tabs_eq (ws : List Int) (l : Nat) (t : Int) : tabs ws l t = t :: (List.range 8).flatMap fun i : Nat => subt ws l (wd ws t (i : Int)) := by
  cases l with
  | zero =>
    have : (List.range 8).flatMap (fun i : Nat => subt ws 0 (wd ws t (i : Int))) = [] := flat_nil 8 _ fun _ _ => rfl
    rw [this]; rfl
  | succ l => rfl
theorem tabs_head (ws : List Int) (l : Nat) (t : Int) : t ∈ tabs ws l t := by rw [tabs_eq]; simp
theorem mem_tabs {ws : List Int} {l : Nat} {t u : Int} : u ∈ tabs ws l t ↔ u = t ∨ ∃ i : Nat, i < 8 ∧ u ∈ subt ws l (wd ws t (i : Int)) := by
  rw [tabs_eq, List.mem_cons, List.mem_flatMap]
  constructor
  · rintro (h | ⟨i, hi, h⟩)
    · exact Or.inl h
    · exact Or.inr ⟨i, List.mem_range.1 hi, h⟩
  · rintro (h | ⟨i, hi, h⟩)
    · exact Or.inl h
    · exact Or.inr ⟨i, List.mem_range.2 hi, h⟩
def SameOn (ws ws' : List Int) (S : List Int) : Prop := ws'.length = ws.length ∧ ∀ u ∈ S, ∀ i : Nat, i < 8 → wd ws' u (i : Int) = wd ws u (i : Int)
theorem SameOn.sub {ws ws' S S' : List Int} (h : SameOn ws ws' S) (hs : ∀ u ∈ S', u ∈ S) : SameOn ws ws' S' := ⟨h.1, fun u hu => h.2 u (hs u hu)⟩
theorem flat_congr {n : Nat} {f g : Nat → List Int} (h : ∀ i, i < n → f i = g i) : (List.range n).flatMap f = (List.range n).flatMap g := by
  induction n with
  | zero => rfl
  | succ n ih =>
    rw [List.range_succ, List.flatMap_append, List.flatMap_append, ih fun i hi => h i (by omega)]
    simp [h n (by omega)]
theorem tabs_same {ws ws' : List Int} : ∀ (l : Nat) (t : Int), SameOn ws ws' (tabs ws l t) → tabs ws' l t = tabs ws l t := by
  intro l
  induction l with
  | zero => intro t _; rfl
  | succ l ih =>
    intro t h
    rw [tabs_eq, tabs_eq]
    congr 1
    refine flat_congr fun i hi => ?_
    rw [h.2 t (tabs_head ws (l + 1) t) i hi]
    have hF : FF ws' = FF ws := by unfold FF; rw [h.1]
    simp only [subt, hF]
    split
    · rename_i hs
      refine ih _ (h.sub fun u hu => mem_tabs.2 (Or.inr ⟨i, hi, ?_⟩))
      simp only [subt, if_pos hs]
      exact hu
    · rfl
theorem subt_same {ws ws' : List Int} (l : Nat) (x : Int) (h : SameOn ws ws' (subt ws l x)) (hF : ws'.length = ws.length) : subt ws' l x = subt ws l x := by
  cases l with
  | zero => rfl
  | succ l =>
    have hF' : FF ws' = FF ws := by unfold FF; rw [hF]
    simp only [subt, hF'] at h ⊢
    split
    · rename_i hs
      rw [if_pos hs] at h
      exact tabs_same l _ h
    · rfl
def Good (ws : List Int) : Nat → Int → Prop
  | 0, t => (0 ≤ t ∧ t < FF ws) ∧ ∀ i : Nat, i < 8 → say (FF ws) 0 (wd ws t (i : Int)) ≠ 0
  | l + 1, t => (0 ≤ t ∧ t < FF ws) ∧ ∀ i : Nat, i < 8 → say (FF ws) ((l + 1 : Nat) : Int) (wd ws t (i : Int)) ≠ 0 ∧ (say (FF ws) ((l + 1 : Nat) : Int) (wd ws t (i : Int)) = 2 → Good ws l (unF (wd ws t (i : Int))))
theorem Good.frame {ws : List Int} {l : Nat} {t : Int} (h : Good ws l t) : 0 ≤ t ∧ t < FF ws := by
  cases l with
  | zero => exact h.1
  | succ l => exact h.1
theorem Good.entry {ws : List Int} {l : Nat} {t : Int} (h : Good ws l t) (i : Nat) (hi : i < 8) : say (FF ws) (l : Int) (wd ws t (i : Int)) ≠ 0 := by
  cases l with
  | zero => exact h.2 i hi
  | succ l => exact (h.2 i hi).1
theorem Good.below {ws : List Int} {l : Nat} {t : Int} (h : Good ws (l + 1) t) (i : Nat) (hi : i < 8) (hs : say (FF ws) ((l + 1 : Nat) : Int) (wd ws t (i : Int)) = 2) : Good ws l (unF (wd ws t (i : Int))) := (h.2 i hi).2 hs
theorem good_same {ws ws' : List Int} : ∀ (l : Nat) (t : Int), SameOn ws ws' (tabs ws l t) → Good ws l t → Good ws' l t := by
  intro l
  induction l with
  | zero =>
    intro t h hg
    have hF : FF ws' = FF ws := by unfold FF; rw [h.1]
    refine ⟨by rw [hF]; exact hg.1, fun i hi => ?_⟩
    rw [hF, h.2 t (tabs_head ws 0 t) i hi]
    exact hg.2 i hi
  | succ l ih =>
    intro t h hg
    have hF : FF ws' = FF ws := by unfold FF; rw [h.1]
    refine ⟨by rw [hF]; exact hg.1, fun i hi => ?_⟩
    rw [hF, h.2 t (tabs_head ws (l + 1) t) i hi]
    refine ⟨(hg.2 i hi).1, fun hs => ih _ (h.sub fun u hu => mem_tabs.2 (Or.inr ⟨i, hi, ?_⟩)) ((hg.2 i hi).2 hs)⟩
    simp only [subt, if_pos hs]
    exact hu
theorem tabs_frames {ws : List Int} : ∀ (l : Nat) (t : Int), Good ws l t → ∀ u ∈ tabs ws l t, 0 ≤ u ∧ u < FF ws := by
  intro l
  induction l with
  | zero =>
    intro t h u hu
    have : u = t := by simpa [tabs] using hu
    rw [this]; exact h.frame
  | succ l ih =>
    intro t h u hu
    rcases mem_tabs.1 hu with rfl | ⟨i, hi, hu⟩
    · exact h.frame
    · simp only [subt] at hu
      split at hu
      · rename_i hs
        exact ih _ (h.below i hi hs) u hu
      · cases hu
theorem dg_nat (p : Int) (l : Nat) : ∃ i : Nat, dg p l = i ∧ i < 8 := ⟨(dg p l).toNat, by unfold dg; omega, by unfold dg; omega⟩
theorem wk_tabs {ws ws' : List Int} (p : Int) : ∀ (l : Nat) (t : Int), SameOn ws ws' (tabs ws l t) → wk ws' p l t = wk ws p l t := by
  intro l
  induction l with
  | zero =>
    intro t h
    obtain ⟨i, hi, hi8⟩ := dg_nat p 0
    unfold wk
    rw [hi, h.2 t (tabs_head ws 0 t) i hi8, h.1]
  | succ l ih =>
    intro t h
    obtain ⟨i, hi, hi8⟩ := dg_nat p (l + 1)
    rw [wk_succ, wk_succ, hi, h.2 t (tabs_head ws (l + 1) t) i hi8, h.1]
    split
    · rename_i hs
      rw [ih _ (h.sub fun u hu => mem_tabs.2 (Or.inr ⟨i, hi8, ?_⟩))]
      simp only [subt]
      rw [if_pos (show say (FF ws) ((l + 1 : Nat) : Int) (wd ws t i) = 2 from hs)]
      exact hu
    · rfl
end Go.Proofs.Ytpcpcgbejinlmaa
