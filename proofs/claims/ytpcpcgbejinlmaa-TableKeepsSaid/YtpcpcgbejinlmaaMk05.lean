/- Plain facts of package table, without the program: a word turns, a table is hung in, a table is taken out; tables that are zeroed. -/
import Derived.Test.YtpcpcgbejinlmaaMk04
import Derived.Test.YtpcpcgbejinlmaaProg
import Derived.Test.YtpcpcgbejinlmaaMk00
import Derived.WalkKit
import Derived.WalkSpells
import Derived.Lib.Hide
import Derived.WalkLawsBesides
import Derived.Deep.QuietTactic
import Derived.BigQuiet
namespace Go.Proofs.Ytpcpcgbejinlmaa
open Go.RowKit
theorem wd_put {ws : List Int} {t v : Int} {b : Nat} (hi : inT ws.length t (b : Int) = true) : One ws (ptL ws t (b : Int) 0 v) t b v := by
  obtain ⟨a, _, e, _⟩ := inT_nat hi
  exact wd_set hi e rfl
section
variable {ws ws' L L' : List Int} {p r q u y : Int} {i v : Nat}
theorem nod_keep (h : One ws ws' u i y) : ∀ (l : Nat) (t : Int), nod ws p l t v = some u → (tabs ws l t).Nodup → nod ws' p l t v = some u := by
  intro l
  induction l with
  | zero => intro t hn _; exact hn
  | succ l ih =>
    intro t hn hd
    by_cases hv : v = l + 1
    · subst hv; rw [nod_here] at hn ⊢; exact hn
    · obtain ⟨k0, hk08, hk0, hs, hn', htu, hd', hoff⟩ := nod_facts hd hn hv
      unfold nod
      rw [if_neg hv, hk0, h.else_ t k0 hk08 (fun e => htu e.1), h.ff, if_pos hs]
      exact ih _ hn' hd'
theorem nod_next : ∀ (l : Nat) (t : Int), nod ws p l t (v + 1) = some u → say (FF ws) ((v + 1 : Nat) : Int) (wd ws u (dg p (v + 1))) = 2 → nod ws p l t v = some (unF (wd ws u (dg p (v + 1)))) := by
  intro l
  induction l with
  | zero =>
    intro t hn _
    have := (nod_mem 0 t _ u hn).1
    omega
  | succ l ih =>
    intro t hn hs
    by_cases hv : v + 1 = l + 1
    · obtain rfl : v = l := by omega
      rw [nod_here] at hn
      injection hn with hn
      subst hn
      unfold nod
      rw [if_neg (by omega), if_pos hs]
      exact nod_here ..
    · obtain ⟨hs0, hn'⟩ := nod_down hn hv
      have := (nod_mem l _ _ u hn').1
      unfold nod
      rw [if_neg (by omega), if_pos hs0]
      exact ih _ hn' hs
theorem Inv.perm (h : Inv ws L r q) (hp : L.Perm L') : Inv ws L' r q ∧ (allF ws L r q).Perm (allF ws L' r q) :=
  ⟨⟨h.len, h.gr, h.gq, (hp.append_right _).nodup_iff.1 h.nd, fun f hf => h.fr f (hp.mem_iff.2 hf)⟩, hp.append_right _⟩
def Stp (ws L ws' L' : List Int) (r q : Int) : Prop := Inv ws' L' r q ∧ (allF ws L r q).Perm (allF ws' L' r q) ∧ SameOn ws ws' (tabs ws 3 q)
theorem Stp.refl (h : Inv ws L r q) : Stp ws L ws L r q := ⟨h, List.Perm.refl _, rfl, fun _ _ _ _ => rfl⟩
theorem Stp.trans {ws'' L'' : List Int} (h : Stp ws L ws' L' r q) (k : Stp ws' L' ws'' L'' r q) : Stp ws L ws'' L'' r q := by
  refine ⟨k.1, h.2.1.trans k.2.1, ?_⟩
  have e := tabs_same 3 q h.2.2
  have k2 := k.2.2
  rw [e] at k2
  exact ⟨k2.1.trans h.2.2.1, fun u hu i hi => (k2.2 u hu i hi).trans (h.2.2.2 u hu i hi)⟩
theorem Stp.perm {L'' : List Int} (h : Stp ws L ws' L' r q) (hp : L'.Perm L'') : Stp ws L ws' L'' r q := by
  obtain ⟨a, b⟩ := h.1.perm hp
  exact ⟨a, h.2.1.trans b, h.2.2⟩
theorem Inv.turn (h : Inv ws L r q) (hn : nod ws p 3 r v = some u) (hold : say (FF ws) (v : Int) (wd ws u (dg p v)) ≠ 2) (hnew : say (FF ws) (v : Int) y ≠ 0 ∧ say (FF ws) (v : Int) y ≠ 2) :
    Stp ws L (ptL ws u (dg p v) 0 y) L r q := by
  obtain ⟨i, hi, hi8⟩ := dg_nat p v
  have hu := (nod_mem 3 r v u hn).2
  have hin := h.inT hu hi8
  rw [hi] at hold ⊢
  have ho := wd_put (v := y) hin
  refine h.one hn hi hi8 ho hnew.1 (fun m _ e => absurd e hnew.2) (fun R => ?_) h.fr
  rw [subt_leaf hold, subt_leaf (by rw [ho.ff]; exact hnew.2)]
theorem Inv.link {f : Int} (h : Inv ws L r q) (hn : nod ws p 3 r (v + 1) = some u) (hold : say (FF ws) ((v + 1 : Nat) : Int) (wd ws u (dg p (v + 1))) ≠ 2) (hv : v < 3) (hL : L.Perm (f :: L')) (ht : tabs ws v f = [f]) (hg : Good ws v f) :
    Stp ws L (ptL ws u (dg p (v + 1)) 0 (wordI f true false false false false false)) L' r q ∧ nod (ptL ws u (dg p (v + 1)) 0 (wordI f true false false false false false)) p 3 r v = some f ∧ ∀ (x : Int) (k : Nat), k < 8 → x ≠ u → wd (ptL ws u (dg p (v + 1)) 0 (wordI f true false false false false false)) x (k : Int) = wd ws x (k : Int) := by
  obtain ⟨i, hi, hi8⟩ := dg_nat p (v + 1)
  obtain ⟨n1, n2, n3, n4, n5⟩ := h.parts
  have hu := (nod_mem 3 r _ u hn).2
  have hin := h.inT hu hi8
  have hfL : f ∈ L := hL.mem_iff.2 List.mem_cons_self
  have huf : u ≠ f := fun e => (n4 f hfL).1 (e ▸ hu)
  have hff := h.fr f hfL
  rw [hi] at hold ⊢
  have ho := wd_put (v := wordI f true false false false false false) hin
  obtain ⟨l1, l2⟩ := link_says (F := FF ws) (l := ((v + 1 : Nat) : Int)) (f := f) (by omega) hff.1 (by rw [h.ff]; exact hff.2) (by rw [h.ff]; omega)
  have hS : SameOn ws (ptL ws u (i : Int) 0 (wordI f true false false false false false)) (tabs ws v f) := ho.same (by rw [ht]; simpa using huf)
  have ht' := tabs_same v f hS
  have hk := nod_keep ho 3 r hn n2
  refine ⟨h.one hn hi hi8 ho (by rw [l1]; decide) (fun m e _ => ?_) (fun R => ?_) (fun x hx => h.fr x (hL.mem_iff.2 (List.mem_cons_of_mem _ hx))), ?_, fun x k hk hx => ho.else_ x k hk fun e => hx e.1⟩
  · obtain rfl : m = v := by omega
    rw [l2]; exact good_same m f hS hg
  · rw [subt_leaf hold]
    have : subt (ptL ws u (i : Int) 0 (wordI f true false false false false false)) (v + 1) (wordI f true false false false false false) = [f] := by
      simp only [subt]
      rw [ho.ff, if_pos l1, l2, ht', ht]
    rw [this, List.nil_append]
    exact hL.append_right R
  · have := nod_next 3 r hk (by rw [hi, ho.at_, ho.ff]; exact l1)
    rw [hi, ho.at_, l2] at this
    exact this
theorem Inv.unlink {t : Int} (h : Inv ws L r q) (hn : nod ws p 3 r (v + 1) = some u) (hold : say (FF ws) ((v + 1 : Nat) : Int) (wd ws u (dg p (v + 1))) = 2) (hold2 : unF (wd ws u (dg p (v + 1))) = t) (ht : tabs ws v t = [t]) (hnew : say (FF ws) ((v + 1 : Nat) : Int) y ≠ 0 ∧ say (FF ws) ((v + 1 : Nat) : Int) y ≠ 2) :
    Stp ws L (ptL ws u (dg p (v + 1)) 0 y) (t :: L) r q := by
  obtain ⟨i, hi, hi8⟩ := dg_nat p (v + 1)
  have hu := (nod_mem 3 r _ u hn).2
  have hin := h.inT hu hi8
  have hn2 := nod_next 3 r hn hold
  rw [hold2] at hn2
  have htf := tabs_frames 3 r h.gr t (nod_mem 3 r _ t hn2).2
  rw [h.ff] at htf
  rw [hi] at hold hold2 ⊢
  have ho := wd_put (v := y) hin
  refine h.one hn hi hi8 ho hnew.1 (fun m _ e => absurd e hnew.2) (fun R => ?_) (fun x hx => ?_)
  · have : subt ws (v + 1) (wd ws u (i : Int)) = [t] := by
      simp only [subt]
      rw [if_pos hold, hold2, ht]
    rw [this, subt_leaf (by rw [ho.ff]; exact hnew.2)]
    exact List.Perm.refl _
  · rcases List.mem_cons.1 hx with rfl | e
    · exact htf
    · exact h.fr x e
end
theorem ze_wd {ws : List Int} (hl : ws.length = 4096) {f : Int} (h0 : 0 ≤ f) (h1 : f < 512) (t : Int) (k : Nat) (hk : k < 8) : wd (zeL ws f 1) t (k : Int) = if t = f then 0 else wd ws t (k : Int) := by
  obtain ⟨a, rfl⟩ : ∃ a : Nat, f = a := ⟨f.toNat, by omega⟩
  have he : errZ ws.length (a : Int) 1 = 0 := by
    unfold errZ errF
    rw [if_neg (by omega), hl]
    simp; omega
  have hz : zeL ws (a : Int) 1 = splice ws (a * 8) (List.replicate 8 0) := by unfold zeL; rw [if_pos he]; rfl
  have hlen : (zeL ws (a : Int) 1).length = ws.length := by rw [hz]; simp [splice]; omega
  unfold wd
  rw [hlen]
  by_cases ht : inT ws.length t (k : Int) = true
  · rw [if_pos ht]
    obtain ⟨x, y, ex, ey, hx, hy⟩ := inT_nat ht
    subst ex
    obtain rfl : k = y := by omega
    rw [show (8 * (x : Int) + (k : Int)).toNat = 8 * x + k by omega, hz, List.getD_eq_getElem?_getD, List.getD_eq_getElem?_getD]
    unfold splice
    by_cases e : (x : Int) = (a : Int)
    · obtain rfl : x = a := by omega
      rw [if_pos rfl, List.getElem?_append_right (by rw [List.length_take]; omega), List.length_take, List.getElem?_append_left (by simp; omega), List.getElem?_replicate]
      rw [if_pos (by omega)]; rfl
    · rw [if_neg e, if_pos ht]
      by_cases hlt : x < a
      · rw [List.getElem?_append_left (by rw [List.length_take]; omega), List.getElem?_take_of_lt (by omega)]
      · rw [List.getElem?_append_right (by rw [List.length_take]; omega), List.length_take, List.getElem?_append_right (by simp; omega), List.getElem?_drop]
        congr 2
        simp; omega
  · rw [if_neg ht]
    split <;> rfl
theorem ze_len {ws : List Int} (hl : ws.length = 4096) {f : Int} (h0 : 0 ≤ f) (h1 : f < 512) : (zeL ws f 1).length = 4096 := by
  unfold zeL
  split
  · simp [splice]; omega
  · exact hl
end Go.Proofs.Ytpcpcgbejinlmaa
/- The contracts of the leaves of package entry and of its reference: what each call returns, and that it writes to new memory alone. -/
namespace Go.Proofs.Ytpcpcgbejinlmaa
open Go.RowKit
set_option maxHeartbeats 400000 in
theorem nothing_any (f : Int) (p w h k u d : Bool) (W : World) :
    Calls Try.prog 89 #[.agg #[.int .i64 f, .bool p, .bool w, .bool h, .bool k, .bool u, .bool d]] W fun e W' => e = .returned (.bool (noB f p w h k u d)) ∧ Below W.heap.size W W' := by
  go_enter Try.func89, Try.ntmps89
  go_wp2
  all_goals
    go_ret
    refine ⟨ret_bool ?_, (Below.refl _ _).alloc (Nat.le_refl _) _⟩
    simp [noB, *]
set_option maxHeartbeats 400000 in
theorem has_any (b n : Int) (a : Addr) (W : World) (hc : W.cell? a = some (.int .u64 n)) (h0 : 0 ≤ b) (h1 : b < 64) (h2 : 0 ≤ n) (h3 : n < 18446744073709551616) :
    Calls Try.prog 94 #[.int .u64 b, .pointer (some a)] W fun e W' => e = .returned (.bool (onB n b)) ∧ W = W' := by
  have hq : 0 ≤ n / 2 ^ b.toNat := Int.ediv_nonneg h2 (Int.pow_nonneg (by omega))
  have hq2 : n / 2 ^ b.toNat ≤ n := Int.ediv_le_self _ h2
  have hand : bits .and .u64 (n / 2 ^ b.toNat) 1 = n / 2 ^ b.toNat % 2 := and_one_u64 _ hq (by omega)
  have H := Lib.hid hand
  clear hand
  go_enter Try.func94, Try.ntmps94
  go_wp2
  go_ret
  exact ⟨ret_bool (by unfold onB; rw [H.out]), rfl⟩
theorem put_no (b : Int) (a : Addr) (W : World) :
    Calls Try.prog 92 #[.int .u64 b, .bool false, .pointer (some a)] W fun e W' => e = .returned (.tuple #[]) ∧ W = W' := by
  go_enter Try.func92, Try.ntmps92
  go_wp2
  go_end0
  exact ⟨rfl, rfl⟩
set_option maxHeartbeats 400000 in
theorem put_yes (b o : Int) (a a' : Addr) (W : World) (hp : W.cell? a = some (.pointer (some a'))) (hc : W.cell? a' = some (.int .u64 o)) (hf : W.frozen? a' = false) (h0 : 0 ≤ b) (h1 : b < 64)
    (h2 : 0 ≤ o) (h3 : o < 18446744073709551616) (hx : o.toNat / 2 ^ b.toNat % 2 = 0) :
    Calls Try.prog 92 #[.int .u64 b, .bool true, .pointer (some a)] W fun e W' => e = .returned (.tuple #[]) ∧ W.setCell a' (.int .u64 (o + 2 ^ b.toNat)) = W' := by
  have hor := u64_or_bit o b.toNat h2 h3 (by omega) hx
  have H := Lib.hid hor
  clear hor hx
  go_enter Try.func92, Try.ntmps92
  go_wp2
  go_end0
  exact ⟨rfl, by rw [H.out]⟩
theorem put_any (b v o : Int) (on : Bool) (a a' : Addr) (W : World) (hp : W.cell? a = some (.pointer (some a'))) (hc : W.cell? a' = some (.int .u64 o)) (hf : W.frozen? a' = false) (h0 : 0 ≤ b) (h1 : b < 64)
    (h2 : 0 ≤ o) (h3 : o < 18446744073709551616) (hv : 2 ^ b.toNat = v) (hx : o.toNat / 2 ^ b.toNat % 2 = 0) :
    Calls Try.prog 92 #[.int .u64 b, .bool on, .pointer (some a)] W fun e W' => e = .returned (.tuple #[]) ∧ W.setCell a' (.int .u64 (o + bitI on v)) = W' := by
  cases on
  · refine (put_no b a W).mono ?_
    rintro e W' ⟨rfl, rfl⟩
    exact ⟨rfl, setCell_self (by simpa [bitI] using hc)⟩
  · refine (put_yes b o a a' W hp hc hf h0 h1 h2 h3 hx).mono ?_
    rintro e W' ⟨rfl, rfl⟩
    exact ⟨rfl, by rw [hv]; rfl⟩
set_option maxHeartbeats 400000 in
theorem putter_any (a : Addr) (W : World) :
    Calls Try.prog 86 #[.pointer (some a)] W fun e W' => e = .returned (.func (.func 92) #[] #[.pointer (some ⟨W.heap.size, 0, none⟩)]) ∧ W.alloc (.cells #[.pointer (some a)] 143) = W' := by
  go_enter Try.func86, Try.ntmps86
  go_wp2
  go_ret
  exact ⟨rfl, rfl⟩
set_option maxHeartbeats 400000 in
theorem asker_any (n : Int) (W : World) :
    Calls Try.prog 88 #[.int .u64 n] W fun e W' => e = .returned (.func (.func 94) #[] #[.pointer (some ⟨W.heap.size, 0, none⟩)]) ∧ W.alloc (.cells #[.int .u64 n] 127) = W' := by
  go_enter Try.func88, Try.ntmps88
  go_wp2
  go_ret
  exact ⟨rfl, rfl⟩
set_option maxHeartbeats 400000 in
theorem may_any (f : Int) (p w h k u d : Bool) (W : World) :
    Calls Try.prog 76 #[.agg #[.int .i64 f, .bool p, .bool w, .bool h, .bool k, .bool u, .bool d]] W fun e W' => e = .returned (.bool (mayB f p w h k u d)) ∧ Below W.heap.size W W' := by
  cases p
  · cases k
    · go_enter Try.func76, Try.ntmps76
      go_wp2_with (go_at_call 89; refine (nothing_any _ _ _ _ _ _ _ _).mono ?_; rintro e w' ⟨rfl, hb⟩)
      go_ret
      refine ⟨ret_bool (by simp [mayB, noB]), ?_⟩
      exact ((Below.refl _ _).alloc (Nat.le_refl _) _).trans (hb.mono (by simp))
    · cases h
      all_goals
        go_enter Try.func76, Try.ntmps76
        go_wp2
        go_ret
        exact ⟨ret_bool (by simp [mayB]), (Below.refl _ _).alloc (Nat.le_refl _) _⟩
  · go_enter Try.func76, Try.ntmps76
    go_wp2
    go_ret
    exact ⟨ret_bool (by simp [mayB]), (Below.refl _ _).alloc (Nat.le_refl _) _⟩
set_option maxHeartbeats 400000 in
theorem check_any (f : Int) (p w h k u d : Bool) (W : World) :
    Calls Try.prog 58 #[.agg #[.int .i64 f, .bool p, .bool w, .bool h, .bool k, .bool u, .bool d]] W fun e W' => e = .returned (.int .i64 (chkI f p w h k u d)) ∧ Below W.heap.size W W' := by
  by_cases h1 : f < 0
  · go_enter Try.func58, Try.ntmps58
    go_wp2
    go_ret
    exact ⟨ret_int (chk_lo h1), (Below.refl _ _).alloc (Nat.le_refl _) _⟩
  · by_cases h2 : 1048576 ≤ f
    · go_enter Try.func58, Try.ntmps58
      go_wp2
      go_ret
      exact ⟨ret_int (chk_hi h2), (Below.refl _ _).alloc (Nat.le_refl _) _⟩
    · go_enter Try.func58, Try.ntmps58
      go_wp2_with (go_at_call 76; refine (may_any _ _ _ _ _ _ _ _).mono ?_; rintro e w' ⟨rfl, hb⟩)
      all_goals
        go_ret
        exact ⟨ret_int (by first | exact chk_bad (by omega) (by omega) ‹_› | exact chk_ok (by omega) (by omega) ‹_›), ((Below.refl _ _).alloc (Nat.le_refl _) _).trans (Below.mono (by assumption) (by simp))⟩
end Go.Proofs.Ytpcpcgbejinlmaa
