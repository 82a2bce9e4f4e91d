/- The reference of pools as it lies; Size, may, Free, Count. -/
import Derived.Test.YtllepijlebbjbaaProg
import Derived.Test.YtllepijlebbjbaaPoA
import Derived.Test.YtllepijlebbjbaaK0
import Derived.BigQuiet
import Derived.Deep.QuietTactic
import Derived.Deep.RegionHeld3
import Derived.Deep.LoopGhost
import Derived.Deep.CutRange
import Derived.Deep.RegionLaw
import Derived.WalkLawsBesides
import Derived.IntWalk
import Derived.Outline
import Derived.StillTailTactics
namespace Go.Proofs.Ytllepijlebbjbaa
open Go.RowKit
def Fits (n : Int) : Prop := -9223372036854775808 ≤ n ∧ n ≤ 9223372036854775807
def EI : Enc Try.prog Int where
  enc x := [.int .i64 x]
  sz := 1
  el := 3
  sl := 35
  zero := .int .i64 0
  bytes := 8
  len _ := rfl
  one a u h := by
    simp only [List.mem_cons, List.not_mem_nil, or_false] at h
    rcases h with rfl
    rfl
  pos := by decide
  zsz := rfl
  und := by kernel_rfl
  info := by kernel_rfl
  small := by decide
theorem below_new (w : World) (o : Obj) : Below w.heap.size w (w.alloc o) := (Below.refl _ _).alloc (Nat.le_refl _) o
/-- Numbers that are told. -/
def ToldI (R : List Int) (w : World) (e : Ending) (w' : World) : Prop := ∃ A c, e = .returned (.slice A R.length c) ∧ EI.Own w.heap.size w' (.slice A R.length c) R ∧ Below w.heap.size w w'
/-- The reference: its struct in block xa, its numbers in block g. -/
structure Px (B : Nat) (w : World) (xa g : Nat) (S : Pk) : Prop where
  top : Lrow w xa 40 [.int .i64 S.o, .int .i64 S.m, .slice (some ⟨g, 0, none⟩) 1024 1024, .int .i64 S.P, .int .i64 S.U]
  row : Lrow w g 3 (S.I.map (Value.int .i64))
  ap : xa ≠ g
  lo : B ≤ xa ∧ B ≤ g
def MineX (xa g k : Nat) : Prop := k = xa ∨ k = g
def DidX (B : Nat) (w : World) (xa g : Nat) (S : Pk) (w' : World) : Prop := Px B w' xa g S ∧ Foot (MineX xa g) w w'
theorem wpList_append_run {P : Program} {w : World} {ops : Array Oper} {rest : List Oper} {o : Oper} {a : Act} {Q : Exit → Act → World → Prop} (hgd : o.guard = none) (d s : Operand) (t : TypeId)
    (ho : o.op = .call { callee := .builtin .append, args := #[d, s], argTypes := #[t, t] }) (v u : Value) (hd : a.eval d = v) (hs : a.eval s = u) {v' : Value} {w' : World}
    (hr : (Builtin.append_ #[t, t] o.type #[v, u]).run P w = .ok v' w') (h : wpList P ops Q rest (a.put o.dst v') w') : wpList P ops Q (o :: rest) a w := by
  refine wpList_plain hgd fun K' hK' => ?_
  unfold Oper.wp
  simp [execOp, ho, resolve, invoke, builtin, hd, hs, hr, Result.andThen]
  exact hK' _ _ h
section
variable {w w' : World} {B xa g : Nat} {S S' : Pk}
theorem Px.lw (h : Px B w xa g S) : B ≤ w.heap.size := by have := h.lo.1; have := h.top.lt; omega
theorem Px.mine (h : Px B w xa g S) : ∀ k, MineX xa g k → B ≤ k ∧ k < w.heap.size := by
  rintro k (rfl | rfl)
  · exact ⟨h.lo.1, h.top.lt⟩
  · exact ⟨h.lo.2, h.row.lt⟩
theorem Px.keep (h : Px B w xa g S) (hk : ∀ k, MineX xa g k → w'.heap[k]? = w.heap[k]?) : Px B w' xa g S :=
  ⟨(hk _ (Or.inl rfl)).trans h.top, (hk _ (Or.inr rfl)).trans h.row, h.ap, h.lo⟩
theorem Px.call (h : Px B w xa g S) (hb : Below w.heap.size w w') : Px B w' xa g S := h.keep fun k hk => hb.block k (h.mine k hk).2
theorem Px.did (h : Px B w xa g S) (hb : Below w.heap.size w w') : DidX B w xa g S w' := ⟨h.call hb, Foot.of_below hb⟩
theorem DidX.pre {W : World} (h : Below W.heap.size W w) (d : DidX B w xa g S w') : DidX B W xa g S w' :=
  ⟨d.1, (Foot.of_below (X := MineX xa g) h).trans d.2 (fun _ e _ => e)⟩
theorem Px.at_ (h : Px B w xa g S) (i : Nat) : w.cell? ⟨g, i, none⟩ = (S.I[i]?).map (Value.int .i64) := by
  rw [h.row.cell i, List.getElem?_map]
/-- A number of its is another. -/
theorem Px.set_ (h : Px B w xa g S) (i : Nat) (v : Int) : Px B (w.setCell ⟨g, i, none⟩ (.int .i64 v)) xa g ⟨S.o, S.m, S.I.set i v, S.P, S.U⟩ where
  top := h.top.far (p := ⟨g, i, none⟩) h.ap _
  row := by
    have := h.row.set_ i (.int .i64 v)
    rw [← List.map_set] at this
    exact this
  ap := h.ap
  lo := h.lo
theorem Px.setP (h : Px B w xa g S) (v : Int) : Px B (w.setCell ⟨xa, 3, none⟩ (.int .i64 v)) xa g ⟨S.o, S.m, S.I, v, S.U⟩ where
  top := h.top.set_ 3 (.int .i64 v)
  row := h.row.far (p := ⟨xa, 3, none⟩) h.ap.symm _
  ap := h.ap
  lo := h.lo
theorem Px.setU (h : Px B w xa g S) (v : Int) : Px B (w.setCell ⟨xa, 4, none⟩ (.int .i64 v)) xa g ⟨S.o, S.m, S.I, S.P, v⟩ where
  top := h.top.set_ 4 (.int .i64 v)
  row := h.row.far (p := ⟨xa, 4, none⟩) h.ap.symm _
  ap := h.ap
  lo := h.lo
theorem Px.foot (xa g : Nat) {k : Nat} (hk : MineX xa g k) (w : World) (i : Nat) (v : Value) : Foot (MineX xa g) w (w.setCell ⟨k, i, none⟩ v) where
  keep j _ hj := Below.heap_setCell _ _ _ j (fun e => hj (by rw [e]; exact hk))
  size := by simp [World.setCell]
  os := rfl
  tape := rfl
  output := rfl
theorem size_x {o : Int} (h : o = 3 ∨ o = 6) (w : World) : Calls Try.prog 51 #[.int .i64 o] w fun e w' => e = .returned (.int .i64 (szI o)) ∧ w = w' := by
  rcases h with rfl | rfl
  all_goals
    go_enter Try.func51, Try.ntmps51
    go_wp2
    go_ret
    exact ⟨rfl, rfl⟩
set_option maxRecDepth 100000 in
set_option maxHeartbeats 2000000 in
theorem free_x (h : Px B w xa g S) (ln : S.I.length = 1024) : Calls Try.prog 15 #[.pointer (some ⟨xa, 0, none⟩)] w (ToldI (frL S.I) w) := by
  have HX := Lib.hid (And.intro h ln)
  clear h ln
  go_enter Try.func15, Try.ntmps15
  go_wp2_with fail
  go_loopw [3, 4] (fun r k wr => ∃ j : Nat, j ≤ 1024 ∧ k = .int .i64 j ∧ EI.Own w.heap.size wr r (frK S.I j) ∧ Below w.heap.size w wr) (fun _ k _ => 1024 - (RowKit.intOf k).toNat)
  case atStart => exact ⟨0, Nat.zero_le _, rfl, ⟨rfl, Or.inl ⟨rfl, rfl⟩⟩, Below.refl _ _⟩
  case round =>
    obtain ⟨j, hj, rfl, hown, hb⟩ := hrel
    obtain ⟨Ar_, cr, rfl⟩ := hown.form
    have hlen : (frK S.I j).length ≤ j := by rw [frK_len]; exact cnK_le _ _ _
    have HSU := Lib.hid (frK_succ S.I j)
    obtain ⟨R, hR⟩ : ∃ R, R = frK S.I j := ⟨_, rfl⟩
    rw [← hR] at hown HSU hlen ⊢
    obtain ⟨m, hmm⟩ : ∃ m, m = R.length := ⟨_, rfl⟩
    have HR := Lib.hid (And.intro hR hmm)
    have HO := Lib.hid hown
    have HB := Lib.hid hb
    rw [← hmm]
    have hx := HX.out.1.call hb
    by_cases hlt : j < 1024
    · have hjl : j < S.I.length := by rw [HX.out.2]; exact hlt
      have d0 : wr.cell? ⟨g, j, none⟩ = some (.int .i64 S.I[j]) := by rw [hx.at_, List.getElem?_eq_getElem hjl]; rfl
      have e2 := hx.top.cell 2
      rw [List.getElem?_eq_getElem hjl] at HSU
      generalize S.I[j] = x at d0 HSU
      have j1 : (j : Int) < 1024 := by omega
      have j0 : (0 : Int) ≤ j := by omega
      clear hx hb hown hR hlen hjl
      by_cases hc : x = 1
      · subst hc
        have HF : Hid (frK S.I (j + 1) = R ++ [(j : Int)]) := by show _ = _; rw [HSU.out, if_pos rfl]
        have hlen : R.length ≤ 1024 := by have h1 := cnK_le S.I 1 j; have h2 := HR.out.1; rw [h2, frK_len]; omega
        obtain ⟨A5, c5, W5, r5, o5, g5, -⟩ := HO.out.app1 HB.out.size (j : Int) (by omega) #[.int .i64 (j : Int)] rfl
        have r5' := r5 _ rfl
        rw [← HR.out.2] at r5' o5
        change (Builtin.append_ #[35, 35] 35 _).run Try.prog (wr.alloc (.cells #[.int .i64 (j : Int)] 3)) = _ at r5'
        have HO5 := Lib.hid o5
        have HB5 : Hid (Below w.heap.size w W5) := Below.grown HB.out g5 HB.out.size (fun k e => by
          obtain ⟨vs, r, hlo⟩ := HO.out.block e
          exact hlo)
        clear o5 g5 r5 HSU
        go_wp2_with (at_builtin; refine wpList_append_run rfl _ _ 35 rfl _ _ rfl rfl r5' ?_)
        go_roundw
        case rel => exact ⟨j + 1, by omega, by go_num, by rw [HF.out]; first | exact HO5.out | (rw [← HR.out.2]; exact HO5.out), HB5.out⟩
        case measure => simp [RowKit.intOf]; omega
      · have HF : Hid (frK S.I (j + 1) = R) := by show _ = _; rw [HSU.out, if_neg (by simpa using hc)]
        have hc1 : (x == 1) = false := by simpa using hc
        clear hc
        go_wp2_with fail
        go_roundw
        case rel => exact ⟨j + 1, by omega, by go_num, by rw [HF.out, HR.out.2]; exact HO.out, HB.out⟩
        case measure => simp [RowKit.intOf]; omega
    · obtain rfl : j = 1024 := by omega
      have HE : Hid (R = frL S.I) := hR
      clear hown hb hR hmm hlen hx
      go_wp2_with fail
      go_ret
      exact ⟨Ar_, cr, by rw [← HE.out, ← HR.out.2]; rfl, by rw [← HE.out]; exact HO.out, HB.out⟩
set_option maxRecDepth 100000 in
set_option maxHeartbeats 2000000 in
theorem count_x (h : Px B w xa g S) (ln : S.I.length = 1024) (is : Int) : Calls Try.prog 17 #[.pointer (some ⟨xa, 0, none⟩), .int .i64 is] w fun e w' => e = .returned (.int .i64 (S.I.count is : Nat)) ∧ w = w' := by
  have HX := Lib.hid (And.intro h ln)
  clear h ln
  go_enter Try.func17, Try.ntmps17
  go_wp2_with fail
  go_loopw [5, 6] (fun r k wr => ∃ j : Nat, j ≤ 1024 ∧ k = .int .i64 j ∧ r = .int .i64 (cnK S.I is j) ∧ w = wr) (fun _ k _ => 1024 - (RowKit.intOf k).toNat)
  case atStart => exact ⟨0, Nat.zero_le _, rfl, rfl, rfl⟩
  case round =>
    obtain ⟨j, hj, rfl, rfl, rfl⟩ := hrel
    by_cases hlt : j < 1024
    · have hjl : j < S.I.length := by rw [HX.out.2]; exact hlt
      have d0 : w.cell? ⟨g, j, none⟩ = some (.int .i64 S.I[j]) := by rw [HX.out.1.at_, List.getElem?_eq_getElem hjl]; rfl
      have e2 := HX.out.1.top.cell 2
      have HSU := Lib.hid (cnK_succ S.I is j)
      have hle := cnK_le S.I is j
      rw [List.getElem?_eq_getElem hjl] at HSU
      generalize S.I[j] = x at d0 HSU
      obtain ⟨n, hn⟩ : ∃ n, n = cnK S.I is j := ⟨_, rfl⟩
      rw [← hn] at HSU hle ⊢
      have j1 : (j : Int) < 1024 := by omega
      have j0 : (0 : Int) ≤ j := by omega
      have hw : IntKind.i64.wrap ((n : Int) + 1) = (n : Int) + 1 := IntWalk.i64_in _ (by omega)
      clear hjl hn
      by_cases hc : x = is
      · have HF : Hid (cnK S.I is (j + 1) = n + 1) := by show _ = _; rw [HSU.out, if_pos (by rw [hc])]
        have hc1 : (x == is) = true := by simpa using hc
        clear hc
        go_wp2_with fail
        go_roundw
        case rel => exact ⟨j + 1, by omega, by go_num, by rw [HF.out]; rfl, trivial⟩
        case measure => simp [RowKit.intOf]; omega
      · have HF : Hid (cnK S.I is (j + 1) = n) := by show _ = _; rw [HSU.out, if_neg (by simpa using hc)]
        have hc1 : (x == is) = false := by simpa using hc
        clear hc
        go_wp2_with fail
        go_roundw
        case rel => exact ⟨j + 1, by omega, by go_num, by rw [HF.out], trivial⟩
        case measure => simp [RowKit.intOf]; omega
    · obtain rfl : j = 1024 := by omega
      have HE : Hid (cnK S.I is 1024 = S.I.count is) := cn_is HX.out.2 is
      go_wp2_with fail
      go_ret
      exact ⟨ret_int (by rw [HE.out]), rfl⟩
end
end Go.Proofs.Ytllepijlebbjbaa
