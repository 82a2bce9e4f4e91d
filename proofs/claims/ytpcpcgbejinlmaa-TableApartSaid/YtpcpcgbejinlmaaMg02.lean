/- Plain facts of package walk, without the program: what an entry's place answers, what an entry says at a level, and what a walk comes to, over the list of a memory's words. -/
import Derived.Test.YtpcpcgbejinlmaaMg00
import Derived.Test.YtpcpcgbejinlmaaMg01
import Derived.Test.YtpcpcgbejinlmaaProg
import Derived.WalkKit
import Derived.WalkSpells
import Derived.Lib.Hide
import Derived.WalkLawsBesides
import Derived.Deep.QuietTactic
import Derived.BigQuiet
namespace Go.Proofs.Ytpcpcgbejinlmaa
open Go.RowKit
def inT (n : Nat) (t i : Int) : Bool := decide (0 ≤ t) && decide (t < (n : Int) / 8) && decide (0 ≤ i) && decide (i < 8)
def errT (n : Nat) (t i : Int) : Int := if inT n t i = true then 0 else 3
def wd (ws : List Int) (t i : Int) : Int := if inT ws.length t i = true then ws.getD (8 * t + i).toNat 0 else 0
def wdE (n : Nat) (x t i : Int) : Int := if inT n t i = true then unErr x else 3
def ptE (n : Nat) (c t i : Int) : Int := if inT n t i = true then c else 3
def ptL (ws : List Int) (t i c v : Int) : List Int := if inT ws.length t i = true ∧ c = 0 then ws.set (8 * t + i).toNat v else ws
theorem inT_iff {n : Nat} {t i : Int} : inT n t i = true ↔ (0 ≤ t ∧ t < (n : Int) / 8 ∧ 0 ≤ i ∧ i < 8) := by
  simp [inT, and_assoc]
theorem inT_nat {n : Nat} {t i : Int} (h : inT n t i = true) : ∃ a b : Nat, t = a ∧ i = b ∧ a < n / 8 ∧ b < 8 := by
  rw [inT_iff] at h
  exact ⟨t.toNat, i.toNat, by omega, by omega, by omega, by omega⟩
theorem wd_bound {ws : List Int} (h : Words ws) (t i : Int) : 0 ≤ wd ws t i ∧ wd ws t i < 18446744073709551616 := by
  unfold wd
  split
  · exact h.at_ _
  · omega
theorem wd_out {ws : List Int} {t i : Int} (h : inT ws.length t i = false) : wd ws t i = 0 := by simp [wd, h]
theorem un_zero : unE 0 = agg0 := by
  have h : unOK 0 = true := by decide
  rw [unE_ok h]
  have : ∀ b, onB 0 b = false := fun b => by simp [onB]
  simp [this, agg0]
theorem errT_in {n : Nat} {t i : Int} (h : inT n t i = true) : errT n t i = 0 := by simp [errT, h]
theorem errT_out {n : Nat} {t i : Int} (h : inT n t i = false) : errT n t i = 3 := by simp [errT, h]
theorem ptL_length (ws : List Int) (t i c v : Int) : (ptL ws t i c v).length = ws.length := by unfold ptL; split <;> simp
theorem addr_ok {n a b : Nat} (ha : a < n / 8) (hb : b < 8) : errW n ((a : Int) * 64 + (b : Int) * 8) = 0 := by
  unfold errW
  rw [if_neg (by omega), if_pos (by omega)]
theorem addr_ld {ws : List Int} {a b : Nat} (ha : a < ws.length / 8) (hb : b < 8) : ldV ws ((a : Int) * 64 + (b : Int) * 8) = wd ws a b := by
  have hi : inT ws.length a b = true := inT_iff.2 ⟨by omega, by omega, by omega, by omega⟩
  unfold ldV wd
  rw [if_pos (addr_ok ha hb), if_pos hi]
  congr 1
  omega
theorem addr_st {ws : List Int} {a b : Nat} (ha : a < ws.length / 8) (hb : b < 8) (v : Int) : stL ws ((a : Int) * 64 + (b : Int) * 8) v = ptL ws a b 0 v := by
  have hi : inT ws.length a b = true := inT_iff.2 ⟨by omega, by omega, by omega, by omega⟩
  unfold stL ptL
  rw [if_pos (addr_ok ha hb), if_pos ⟨hi, rfl⟩]
  congr 1
  omega
def od (l : Int) (h : Bool) : Int := if h = true then l * 3 else 0
def sayB (F l : Int) (ok : Bool) (f : Int) (p w h k u d : Bool) : Int :=
  if ok = false then 0 else if k = true ∧ 0 < l then 0 else if h = true ∧ (l = 0 ∨ l = 3) then 0 else if noB f p w h k u d = true then 1
  else if evB f (od l h) = false ∨ F - 2 ^ (od l h).toNat < f then 0 else if l = 0 ∨ h = true then 3 else 2
def say (F l x : Int) : Int := sayB F l (unOK x) (unF x) (unB x 0) (unB x 1) (unB x 7) (unB x 9) (unB x 5) (unB x 6)
theorem sayB_cases (F l : Int) (ok : Bool) (f : Int) (p w h k u d : Bool) : sayB F l ok f p w h k u d = 0 ∨ sayB F l ok f p w h k u d = 1 ∨ sayB F l ok f p w h k u d = 2 ∨ sayB F l ok f p w h k u d = 3 := by
  unfold sayB
  split
  · simp
  split
  · simp
  split
  · simp
  split
  · simp
  split
  · simp
  split <;> simp
theorem say_cases (F l x : Int) : say F l x = 0 ∨ say F l x = 1 ∨ say F l x = 2 ∨ say F l x = 3 := sayB_cases ..
theorem say_further {F l x : Int} (h : say F l x = 2) : l ≠ 0 ∧ unB x 7 = false ∧ unF x < F ∧ unOK x = true := by
  unfold say sayB at h
  split at h
  · omega
  split at h
  · omega
  split at h
  · omega
  split at h
  · omega
  split at h
  · omega
  rename_i hf
  split at h
  · omega
  rename_i h1 _ _ _ hl
  simp only [not_or, Bool.not_eq_true, Bool.not_eq_false] at h1 hl hf
  refine ⟨hl.1, hl.2, ?_, h1⟩
  have := hf.2
  simp [od, hl.2] at this
  omega
theorem un_frame (x : Int) : 0 ≤ unF x ∧ unF x < 1048576 := by
  unfold unF
  split
  · rename_i h
    have hc : unChk x = 0 := by simp [unOK] at h; exact h.1
    have := chk_range hc
    omega
  · omega
theorem kinds {x : Int} (h : unOK x = true) : (unF x = 0 ∧ unB x 0 = false ∧ unB x 1 = false ∧ unB x 7 = false ∧ unB x 9 = false ∧ unB x 5 = false ∧ unB x 6 = false) ∨ (unB x 0 = true ∧ unB x 9 = false)
    ∨ (unB x 0 = false ∧ unB x 9 = true ∧ unB x 7 = false ∧ unB x 1 = false) := by
  have hc : unChk x = 0 := by simp [unOK] at h; exact h.1
  have hm : mayB (x / 4096) (onB x 0) (onB x 1) (onB x 7) (onB x 9) (onB x 5) (onB x 6) = true := by
    unfold unChk chkI at hc
    split at hc
    · omega
    split at hc
    · omega
    split at hc
    · assumption
    · omega
  have hf : unF x = x / 4096 := by simp [unF, h]
  have hb : ∀ b, unB x b = onB x b := fun b => by simp [unB, h]
  rw [hf, hb, hb, hb, hb, hb, hb]
  revert hm
  unfold mayB
  cases onB x 0 <;> cases onB x 9 <;> simp
  · intro a b c d e; exact ⟨a, b, c, d, e⟩
structure Fd where
  er : Int
  lv : Nat
  x : Int
  ts : List Int
  sl : Int
def fin (s : Int) (l : Nat) (x t i : Int) : Fd := if s = 1 then ⟨6, 0, 0, [t], i⟩ else if s = 3 then ⟨0, l, x, [t], i⟩ else ⟨5, 0, 0, [], 0⟩
def app (ts : List Int) (r : Fd) : Fd := if r.er = 5 then r else { r with ts := ts ++ r.ts }
def dg (p : Int) (l : Nat) : Int := p / 8 ^ l % 8
def wk (ws : List Int) (p : Int) : Nat → Int → Fd
  | 0, t => fin (say ((ws.length : Int) / 8) 0 (wd ws t (dg p 0))) 0 (wd ws t (dg p 0)) t (dg p 0)
  | l + 1, t => if say ((ws.length : Int) / 8) ((l + 1 : Nat) : Int) (wd ws t (dg p (l + 1))) = 2 then app [t] (wk ws p l (unF (wd ws t (dg p (l + 1)))))
    else fin (say ((ws.length : Int) / 8) ((l + 1 : Nat) : Int) (wd ws t (dg p (l + 1)))) (l + 1) (wd ws t (dg p (l + 1))) t (dg p (l + 1))
def fol (ws : List Int) (root p : Int) : Fd := if inT ws.length root 0 = true ∧ (0 ≤ p ∧ p ≤ 4095) then wk ws p 3 root else ⟨3, 0, 0, [], 0⟩
theorem app_app (ts us : List Int) (r : Fd) : app ts (app us r) = app (ts ++ us) r := by
  unfold app
  by_cases h : r.er = 5
  · simp [h]
  · simp [h]
theorem app_nil (r : Fd) : app [] r = r := by unfold app; split <;> simp
theorem wk_succ (ws : List Int) (p : Int) (l : Nat) (t : Int) : wk ws p (l + 1) t = if say ((ws.length : Int) / 8) ((l + 1 : Nat) : Int) (wd ws t (dg p (l + 1))) = 2 then app [t] (wk ws p l (unF (wd ws t (dg p (l + 1)))))
    else fin (say ((ws.length : Int) / 8) ((l + 1 : Nat) : Int) (wd ws t (dg p (l + 1)))) (l + 1) (wd ws t (dg p (l + 1))) t (dg p (l + 1)) := rfl
theorem wk_stop {ws : List Int} {p : Int} {l : Nat} {t : Int} (h : say ((ws.length : Int) / 8) l (wd ws t (dg p l)) ≠ 2) : wk ws p l t = fin (say ((ws.length : Int) / 8) l (wd ws t (dg p l))) l (wd ws t (dg p l)) t (dg p l) := by
  cases l with
  | zero => rfl
  | succ l => rw [wk_succ, if_neg h]
theorem wk_on {ws : List Int} {p : Int} {l : Nat} {t : Int} (h : say ((ws.length : Int) / 8) ((l + 1 : Nat) : Int) (wd ws t (dg p (l + 1))) = 2) : wk ws p (l + 1) t = app [t] (wk ws p l (unF (wd ws t (dg p (l + 1))))) := by
  rw [wk_succ, if_pos h]
structure Fine (l : Nat) (t : Int) (r : Fd) : Prop where
  er : r.er = 0 ∨ r.er = 5 ∨ r.er = 6
  ok : r.er = 0 → r.lv ≤ l ∧ r.ts.length = l + 1 - r.lv
  none : r.er = 6 → 1 ≤ r.ts.length ∧ r.ts.length ≤ l + 1
  bad : r.er = 5 → r.ts = []
  head : r.er ≠ 5 → ∃ ts, r.ts = t :: ts
theorem fin_fine (s : Int) (l : Nat) (x t i : Int) : Fine l t (fin s l x t i) := by
  unfold fin
  split
  · exact ⟨by simp, by simp, by simp, by simp, fun _ => ⟨_, rfl⟩⟩
  · split
    · exact ⟨by simp, by simp, by simp, by simp, fun _ => ⟨_, rfl⟩⟩
    · exact ⟨by simp, by simp, by simp, by simp, by simp⟩
theorem app_fine {l : Nat} {t u : Int} {r : Fd} (h : Fine l u r) : Fine (l + 1) t (app [t] r) := by
  unfold app
  split
  · rename_i h5
    exact ⟨h.er, fun h0 => by omega, fun h6 => by omega, h.bad, fun hn => absurd h5 hn⟩
  · rename_i h5
    refine ⟨h.er, fun h0 => ?_, fun h6 => ?_, fun hb => absurd hb h5, fun _ => ⟨_, rfl⟩⟩
    · have := h.ok h0
      exact ⟨by show r.lv ≤ l + 1; omega, by show ([t] ++ r.ts).length = l + 1 + 1 - r.lv; simp; omega⟩
    · have := h.none h6
      exact ⟨by show 1 ≤ ([t] ++ r.ts).length; simp, by show ([t] ++ r.ts).length ≤ _; simp; omega⟩
theorem wk_fine (ws : List Int) (p : Int) : ∀ (l : Nat) (t : Int), Fine l t (wk ws p l t)
  | 0, t => fin_fine ..
  | l + 1, t => by
    rw [wk_succ]
    split
    · exact app_fine (wk_fine ws p l _)
    · exact fin_fine ..
theorem fol_er (ws : List Int) (root p : Int) : (fol ws root p).er = 0 ∨ (fol ws root p).er = 3 ∨ (fol ws root p).er = 5 ∨ (fol ws root p).er = 6 := by
  unfold fol
  split
  · rcases (wk_fine ws p 3 root).er with h | h | h <;> simp [h]
  · simp
end Go.Proofs.Ytpcpcgbejinlmaa
/- The contracts of the leaves of package entry and of its reference: what each call returns, and that it writes to new memory alone. -/
namespace Go.Proofs.Ytpcpcgbejinlmaa
open Go.RowKit
set_option maxHeartbeats 400000 in
theorem nothing_any (f : Int) (p w h k u d : Bool) (W : World) :
    Calls Try.prog 89 #[.agg #[.int .i64 f, .bool p, .bool w, .bool h, .bool k, .bool u, .bool d]] W fun e W' => e = .returned (.bool (noB f p w h k u d)) ∧ Below W.heap.size W W' := by
  go_enter Try.func89, Try.ntmps89
  go_wp2
  all_goals
    go_ret
    refine ⟨ret_bool ?_, (Below.refl _ _).alloc (Nat.le_refl _) _⟩
    simp [noB, *]
set_option maxHeartbeats 400000 in
theorem has_any (b n : Int) (a : Addr) (W : World) (hc : W.cell? a = some (.int .u64 n)) (h0 : 0 ≤ b) (h1 : b < 64) (h2 : 0 ≤ n) (h3 : n < 18446744073709551616) :
    Calls Try.prog 94 #[.int .u64 b, .pointer (some a)] W fun e W' => e = .returned (.bool (onB n b)) ∧ W = W' := by
  have hq : 0 ≤ n / 2 ^ b.toNat := Int.ediv_nonneg h2 (Int.pow_nonneg (by omega))
  have hq2 : n / 2 ^ b.toNat ≤ n := Int.ediv_le_self _ h2
  have hand : bits .and .u64 (n / 2 ^ b.toNat) 1 = n / 2 ^ b.toNat % 2 := and_one_u64 _ hq (by omega)
  have H := Lib.hid hand
  clear hand
  go_enter Try.func94, Try.ntmps94
  go_wp2
  go_ret
  exact ⟨ret_bool (by unfold onB; rw [H.out]), rfl⟩
theorem put_no (b : Int) (a : Addr) (W : World) :
    Calls Try.prog 92 #[.int .u64 b, .bool false, .pointer (some a)] W fun e W' => e = .returned (.tuple #[]) ∧ W = W' := by
  go_enter Try.func92, Try.ntmps92
  go_wp2
  go_end0
  exact ⟨rfl, rfl⟩
set_option maxHeartbeats 400000 in
theorem put_yes (b o : Int) (a a' : Addr) (W : World) (hp : W.cell? a = some (.pointer (some a'))) (hc : W.cell? a' = some (.int .u64 o)) (hf : W.frozen? a' = false) (h0 : 0 ≤ b) (h1 : b < 64)
    (h2 : 0 ≤ o) (h3 : o < 18446744073709551616) (hx : o.toNat / 2 ^ b.toNat % 2 = 0) :
    Calls Try.prog 92 #[.int .u64 b, .bool true, .pointer (some a)] W fun e W' => e = .returned (.tuple #[]) ∧ W.setCell a' (.int .u64 (o + 2 ^ b.toNat)) = W' := by
  have hor := u64_or_bit o b.toNat h2 h3 (by omega) hx
  have H := Lib.hid hor
  clear hor hx
  go_enter Try.func92, Try.ntmps92
  go_wp2
  go_end0
  exact ⟨rfl, by rw [H.out]⟩
theorem put_any (b v o : Int) (on : Bool) (a a' : Addr) (W : World) (hp : W.cell? a = some (.pointer (some a'))) (hc : W.cell? a' = some (.int .u64 o)) (hf : W.frozen? a' = false) (h0 : 0 ≤ b) (h1 : b < 64)
    (h2 : 0 ≤ o) (h3 : o < 18446744073709551616) (hv : 2 ^ b.toNat = v) (hx : o.toNat / 2 ^ b.toNat % 2 = 0) :
    Calls Try.prog 92 #[.int .u64 b, .bool on, .pointer (some a)] W fun e W' => e = .returned (.tuple #[]) ∧ W.setCell a' (.int .u64 (o + bitI on v)) = W' := by
  cases on
  · refine (put_no b a W).mono ?_
    rintro e W' ⟨rfl, rfl⟩
    exact ⟨rfl, setCell_self (by simpa [bitI] using hc)⟩
  · refine (put_yes b o a a' W hp hc hf h0 h1 h2 h3 hx).mono ?_
    rintro e W' ⟨rfl, rfl⟩
    exact ⟨rfl, by rw [hv]; rfl⟩
set_option maxHeartbeats 400000 in
theorem putter_any (a : Addr) (W : World) :
    Calls Try.prog 86 #[.pointer (some a)] W fun e W' => e = .returned (.func (.func 92) #[] #[.pointer (some ⟨W.heap.size, 0, none⟩)]) ∧ W.alloc (.cells #[.pointer (some a)] 143) = W' := by
  go_enter Try.func86, Try.ntmps86
  go_wp2
  go_ret
  exact ⟨rfl, rfl⟩
set_option maxHeartbeats 400000 in
theorem asker_any (n : Int) (W : World) :
    Calls Try.prog 88 #[.int .u64 n] W fun e W' => e = .returned (.func (.func 94) #[] #[.pointer (some ⟨W.heap.size, 0, none⟩)]) ∧ W.alloc (.cells #[.int .u64 n] 127) = W' := by
  go_enter Try.func88, Try.ntmps88
  go_wp2
  go_ret
  exact ⟨rfl, rfl⟩
set_option maxHeartbeats 400000 in
theorem may_any (f : Int) (p w h k u d : Bool) (W : World) :
    Calls Try.prog 76 #[.agg #[.int .i64 f, .bool p, .bool w, .bool h, .bool k, .bool u, .bool d]] W fun e W' => e = .returned (.bool (mayB f p w h k u d)) ∧ Below W.heap.size W W' := by
  cases p
  · cases k
    · go_enter Try.func76, Try.ntmps76
      go_wp2_with (go_at_call 89; refine (nothing_any _ _ _ _ _ _ _ _).mono ?_; rintro e w' ⟨rfl, hb⟩)
      go_ret
      refine ⟨ret_bool (by simp [mayB, noB]), ?_⟩
      exact ((Below.refl _ _).alloc (Nat.le_refl _) _).trans (hb.mono (by simp))
    · cases h
      all_goals
        go_enter Try.func76, Try.ntmps76
        go_wp2
        go_ret
        exact ⟨ret_bool (by simp [mayB]), (Below.refl _ _).alloc (Nat.le_refl _) _⟩
  · go_enter Try.func76, Try.ntmps76
    go_wp2
    go_ret
    exact ⟨ret_bool (by simp [mayB]), (Below.refl _ _).alloc (Nat.le_refl _) _⟩
set_option maxHeartbeats 400000 in
theorem check_any (f : Int) (p w h k u d : Bool) (W : World) :
    Calls Try.prog 58 #[.agg #[.int .i64 f, .bool p, .bool w, .bool h, .bool k, .bool u, .bool d]] W fun e W' => e = .returned (.int .i64 (chkI f p w h k u d)) ∧ Below W.heap.size W W' := by
  by_cases h1 : f < 0
  · go_enter Try.func58, Try.ntmps58
    go_wp2
    go_ret
    exact ⟨ret_int (chk_lo h1), (Below.refl _ _).alloc (Nat.le_refl _) _⟩
  · by_cases h2 : 1048576 ≤ f
    · go_enter Try.func58, Try.ntmps58
      go_wp2
      go_ret
      exact ⟨ret_int (chk_hi h2), (Below.refl _ _).alloc (Nat.le_refl _) _⟩
    · go_enter Try.func58, Try.ntmps58
      go_wp2_with (go_at_call 76; refine (may_any _ _ _ _ _ _ _ _).mono ?_; rintro e w' ⟨rfl, hb⟩)
      all_goals
        go_ret
        exact ⟨ret_int (by first | exact chk_bad (by omega) (by omega) ‹_› | exact chk_ok (by omega) (by omega) ‹_›), ((Below.refl _ _).alloc (Nat.le_refl _) _).trans (Below.mono (by assumption) (by simp))⟩
end Go.Proofs.Ytpcpcgbejinlmaa
