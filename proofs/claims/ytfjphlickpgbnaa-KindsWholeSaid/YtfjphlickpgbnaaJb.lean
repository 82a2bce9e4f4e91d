/- The reference by kinds: New. -/
import Derived.Test.YtfjphlickpgbnaaJa
namespace Go.Proofs.Ytfjphlickpgbnaa
open Go.RowKit

theorem own_formI {W : World} {C n : Nat} {v : Value} {xs : List Value} (h : W.ownsRow C 3 1 v n xs) : ∃ A c, v = .slice A n c := by
  rcases h.2 with ⟨h1, h2⟩ | ⟨g, cap, cur, h1, _⟩
  · exact ⟨none, 0, by rw [h1, h2]⟩
  · exact ⟨_, _, h1⟩
theorem own_farI {w w' : World} {B m b : Nat} {v : Value} {xs vs : List Value} {t : TypeId} (h : w.ownsRow B 3 1 v m xs) (hg : w.grownBy w' v.ownBlock) (r : Lrow w b t vs) (hne : t ≠ 3) : Lrow w' b t vs := r.grown hg (fun e => by
  rcases h.2 with ⟨e2, _⟩ | ⟨q, cap, cur, e2, _, hq, _⟩
  · rw [e2] at e; simp [Value.ownBlock] at e
  · rw [e2] at e
    simp only [Value.ownBlock, Option.some.injEq] at e
    exact r.apart (show Lrow w q 3 cur.toList from hq) hne e)
theorem own_callI {w w' : World} {B : Nat} {v : Value} {m : Nat} {xs : List Value} (h : w.ownsRow B 3 1 v m xs) (hk : ∀ g vs, Lrow w g 3 vs → Lrow w' g 3 vs) : w'.ownsRow B 3 1 v m xs := by
  refine ⟨h.1, ?_⟩
  rcases h.2 with hn | ⟨g, cap, cur, rfl, hbg, hg, rest⟩
  · exact Or.inl hn
  · exact Or.inr ⟨g, cap, cur, rfl, hbg, hk g cur.toList hg, rest⟩
theorem new_one (w : World) (x : Int) : ∀ (i : Nat) (u : Value), [Value.int .i64 x][i]? = some u → (w.alloc (.cells #[.int .i64 x] 3)).cell? ((⟨w.heap.size, 0, none⟩ : Addr).add i) = some u := fun i u hu => by
  rw [add_zero_off, (Lrow.new w _ [.int .i64 x]).cell]; exact hu
theorem one_one (x : Int) : ∀ u ∈ [Value.int .i64 x], u.oneCell' = true := by
  intro u hu; simp at hu; rw [hu]; rfl
section
variable {w : World}
theorem refKNew_bad {f : Int} (h : f < 8 ∨ 1024 < f) (w : World) : Calls Try.prog 29 #[.int .i64 f] w fun e w' => e = .returned (.tuple #[.pointer none, .int .i64 2]) ∧ w = w' := by
  have hN := fun W => refNew_bad h W
  clear h
  go_enter Try.func29, Try.ntmps29
  go_wp2_with (go_at_call 47; refine (hN _).mono ?_; rintro e w' ⟨rfl, rfl⟩)
  go_ret2
  exact ⟨rfl, rfl⟩
/-- A new reference: all frames free, all sections movable. -/
def RefKNewly (n : Nat) (w : World) (e : Ending) (w' : World) : Prop :=
  ∃ z x y h, e = .returned (.tuple #[.pointer (some ⟨z, 0, none⟩), .int .i64 0]) ∧ Below w.heap.size w w' ∧ RefK w' z x y h n (List.replicate n true) (List.replicate ((n + 7) / 8) 1) ∧ w.heap.size ≤ z ∧ w.heap.size ≤ x ∧ w.heap.size ≤ y ∧ w.heap.size ≤ h
set_option maxHeartbeats 1000000 in
set_option maxRecDepth 100000 in
theorem refKNew_any (n : Nat) (h1 : 8 ≤ n) (h2 : n ≤ 1024) (w : World) : Calls Try.prog 29 #[.int .i64 n] w (RefKNewly n w) := by
  have hN := refNew_any n h1 h2 w
  obtain ⟨i0, hi0, hz0, hz1, hz2⟩ := info_parts info_int
  have HI := Lib.hid (And.intro hi0 (And.intro hz0 (And.intro hz1 hz2)))
  clear hi0 hz0 hz1 hz2
  go_enter Try.func29, Try.ntmps29
  go_wp2_with fail
  refine Calls.mono hN ?_
  rintro e w1 ⟨rfl, hb1, hr1⟩
  obtain ⟨x, hx⟩ : ∃ x, x = w.heap.size + 1 := ⟨_, rfl⟩
  obtain ⟨y, hy⟩ : ∃ y, y = w.heap.size := ⟨_, rfl⟩
  rw [← hx, ← hy] at hr1
  rw [← hx]
  have HX := Lib.hid hx
  have HY := Lib.hid hy
  have HR1 := Lib.hid hr1
  have HB1 := Lib.hid hb1
  clear hx hy hr1 hb1 hN
  go_wp2_with fail
  obtain ⟨W, hW⟩ : ∃ W, W = w1.alloc (.cells #[.pointer (some ⟨x, 0, none⟩), .slice none 0 0] 42) := ⟨_, rfl⟩
  obtain ⟨z, hz⟩ : ∃ z, z = w1.heap.size := ⟨_, rfl⟩
  rw [← hW, ← hz]
  have hbW : Below w1.heap.size w1 W := by rw [hW]; exact (Below.refl _ _).alloc (Nat.le_refl _) _
  have HT : Hid (Lrow W z 42 [.pointer (some ⟨x, 0, none⟩), .slice none 0 0]) := by show Lrow _ _ _ _; rw [hW, hz]; exact Lrow.new _ _ _
  have HRW := Lib.hid (HR1.out.call hbW)
  have HBW := Lib.hid (HB1.out.trans (hbW.mono HB1.out.size))
  have HZ : Hid (w.heap.size ≤ z) := by show _ ≤ _; rw [hz]; exact HB1.out.size
  clear hW hz hbW
  go_loopw [7] (fun t wr => ∃ (j : Nat) (A : Option Addr) (c : Nat), j ≤ (n + 7) / 8 ∧ t = .int .i64 (j * 8 : Nat) ∧ Lrow wr z 42 [.pointer (some ⟨x, 0, none⟩), .slice A j c] ∧ wr.ownsRow w.heap.size 3 1 (.slice A j c) j (kcl (List.replicate j 1)) ∧ RefAt wr x y n (List.replicate n true) ∧ Below w.heap.size w wr) (fun t _ => n + 8 - (intOf t).toNat)
  case atStart => exact ⟨0, none, 0, Nat.zero_le _, rfl, HT.out, World.ownsRow_nil _ _ _ _, HRW.out, HBW.out⟩
  case round =>
    obtain ⟨j, A, c, hj, rfl, ht, hown, hra, hb⟩ := hrel
    by_cases hlt : j * 8 < n
    · obtain ⟨hi0, hz0, hz1, hz2⟩ := HI.out
      have hc1 : wr.cell? ⟨z, 1, none⟩ = some (.slice A j c) := ht.cell 1
      have hzs : z < wr.heap.size := ht.lt
      have hzn : ¬ z = wr.heap.size := by omega
      have hsz := hb.size
      have hba : Below wr.heap.size wr (wr.alloc (.cells #[.int .i64 1] 3)) := (Below.refl _ _).alloc (Nat.le_refl _) _
      have HRA := Lib.hid (hra.call hba)
      have HBA := Lib.hid (hb.trans (hba.mono hb.size))
      have HTA := Lib.hid (ht.call hba)
      have howna := hown.alloc (.cells #[.int .i64 1] 3)
      have HOA := Lib.hid howna
      clear hra hb ht hba
      go_wp2_with (at_builtin; refine wpList_append_own _ rfl _ _ 40 rfl w.heap.size 3 i0 (.int .i64 0) 1 8 Try.underlying40 hi0 hz0 hz1 hz2 rfl (by decide) _ j (kcl (List.replicate j 1)) rfl howna ⟨wr.heap.size, 0, none⟩ 1 1 [.int .i64 1] rfl rfl (new_one wr 1) (one_one 1) (by unfold maxLen; omega) (by omega) (by simp; omega) ?_; intro v' w2 hown2 hgr hn2; obtain ⟨A2, c2, hv2⟩ := own_formI hown2; subst hv2; have ht2 := own_farI HOA.out hgr HTA.out (by decide); have hf2 := ht2.frozen 1; have hc2 : w2.cell? ⟨z, 1, none⟩ = some (.slice A j c) := ht2.cell 1)
      have hgr' : (wr.alloc (.cells #[.int .i64 1] 3)).grownBy w2 (Value.slice A j c).ownBlock := hgr
      have hset := grown_set w2 z 1 (.slice A2 (j + 1) c2)
      have hne : ∀ {b : Nat} {t : TypeId} {vs : List Value}, Lrow w2 b t vs → t ≠ 42 → Lrow (w2.setCell ⟨z, 1, none⟩ (.slice A2 (j + 1) c2)) b t vs := fun r h => r.grown hset (fun e => by injection e with e; exact r.apart ht2 h e)
      have HT3 : Hid (Lrow (w2.setCell ⟨z, 1, none⟩ (.slice A2 (j + 1) c2)) z 42 [.pointer (some ⟨x, 0, none⟩), .slice A2 (j + 1) c2]) := ht2.set_ 1 _
      have hkc : kcl (List.replicate (j + 1) 1) = kcl (List.replicate j 1) ++ [.int .i64 1] := by rw [List.replicate_succ']; simp [kcl]
      have HO3 : Hid ((w2.setCell ⟨z, 1, none⟩ (.slice A2 (j + 1) c2)).ownsRow w.heap.size 3 1 (.slice A2 (j + 1) c2) (j + 1) (kcl (List.replicate (j + 1) 1))) := by
        show World.ownsRow _ _ _ _ _ _ _
        rw [hkc]
        exact own_callI hown2 fun g vs r => hne r (by decide)
      have HR3 : Hid (RefAt (w2.setCell ⟨z, 1, none⟩ (.slice A2 (j + 1) c2)) x y n (List.replicate n true)) :=
        ⟨HRA.out.len, HRA.out.hi, hne (own_farI HOA.out hgr' HRA.out.top (by decide)) (by decide), hne (own_farI HOA.out hgr' HRA.out.row (by decide)) (by decide)⟩
      have HB3 : Hid (Below w.heap.size w (w2.setCell ⟨z, 1, none⟩ (.slice A2 (j + 1) c2))) :=
        (HBA.out.grown hgr' HBA.out.size (fun k e => (HOA.out.lt k e).1)).setCell (p := ⟨z, 1, none⟩) HZ.out _
      clear hown hc1 howna hgr hgr' hown2 hn2 ht2 hf2 hc2 hset hne hkc hi0 hz0 hz1 hz2
      go_roundw
      case rel => exact ⟨j + 1, A2, c2, by omega, by go_num, HT3.out, HO3.out, HR3.out, HB3.out⟩
      case measure => simp [intOf]; omega
    · have hjm : j = (n + 7) / 8 := by omega
      have HJ := Lib.hid hjm
      have HT3 := Lib.hid ht
      have HO3 := Lib.hid hown
      have HR3 := Lib.hid hra
      have HB3 := Lib.hid hb
      clear ht hown hra hb hjm
      go_wp2
      go_ret2
      rcases HO3.out.2 with ⟨_, h0⟩ | ⟨g, cap, cur, hv, hgb, hg, hcap, _, _, htk⟩
      · exact absurd h0 (by have := HJ.out; omega)
      · injection hv with hA _ hc
        subst hA hc
        unfold RefKNewly
        rw [← HJ.out]
        refine ⟨z, x, y, g, rfl, HB3.out, ⟨HR3.out, ⟨c, by rw [List.length_replicate]; exact hcap, by rw [List.length_replicate]; exact HT3.out⟩, ⟨cur.toList.drop j, ?_⟩, by rw [List.length_replicate]; exact HJ.out⟩, HZ.out, by have := HX.out; omega, by have := HY.out; omega, hgb⟩
        rw [Nat.mul_one] at htk
        rw [← htk, List.take_append_drop]
        unfold Lrow
        rw [hg]
end
end Go.Proofs.Ytfjphlickpgbnaa
