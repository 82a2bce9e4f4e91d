/- The reference's Drop and First. -/
import Derived.Test.YtgkliffhdibghaaUb
namespace Go.Proofs.Ytgkliffhdibghaa
open Go.RowKit

theorem own_base {w : World} {B C : Nat} {v : Value} {n : Nat} {xs : List Value} {t : TypeId} {s : Nat} (h : w.ownsRow C t s v n xs) (hB : B ≤ C) : w.ownsRow B t s v n xs := by
  refine ⟨h.1, ?_⟩
  rcases h.2 with e | ⟨g, cap, cur, e1, e2, rest⟩
  · exact Or.inl e
  · exact Or.inr ⟨g, cap, cur, e1, Nat.le_trans hB e2, rest⟩
theorem take_at {N : List It} {k : Nat} (h : k < N.length) : N.take (k + 1) = N.take k ++ [at' N k] := by
  rw [List.take_succ_eq_append_getElem h, show at' N k = N[k] from at_of_get (List.getElem?_eq_getElem h)]
theorem dropL_take {N : List It} {k : Nat} (h : k < N.length) (f : Int) : dropL (N.take (k + 1)) f = if (at' N k).1 = f then dropL (N.take k) f else dropL (N.take k) f ++ [at' N k] := by
  rw [take_at h]
  unfold dropL
  rw [List.filter_append]
  by_cases e : (at' N k).1 = f
  · simp [isF, e]
  · simp [isF, e]
theorem dropL_le (N : List It) (f : Int) : (dropL N f).length ≤ N.length := List.length_filter_le _ _
theorem lst_take {N : List It} {k : Nat} (h0 : 0 < k) (h : k < N.length) : lst (N.take (k + 1)) = if ltB (at' N k) (lst (N.take k)) = true then at' N k else lst (N.take k) := by
  rw [take_at h]
  cases N with
  | nil => simp at h
  | cons y r =>
    obtain ⟨j, rfl⟩ : ∃ j, k = j + 1 := ⟨k - 1, by omega⟩
    generalize at' (y :: r) (j + 1) = z
    rw [List.take_succ_cons, List.cons_append]
    show List.foldl _ y (r.take j ++ [z]) = _
    rw [List.foldl_append]
    rfl
section
variable {w : World} {B x : Nat} {rv : Value} {N : List It}
set_option maxHeartbeats 2000000 in
theorem refDrop_any (h : RefX B w x rv N) (hl : N.length ≤ 5000) (f : Int) :
    Calls Try.prog 14 #[.pointer (some ⟨x, 0, none⟩), .int .i64 f] w (DidR B w x rv (dropL N f) (.int .i64 (dropE N f))) := by
  have H := Lib.hid h
  have HA := Lib.hid (refAt_any h (by omega) f)
  by_cases hh : hasF N f = true
  · have e1 := Lib.hid (show dropE N f = 0 by simp [dropE, hh])
    rw [e1.out]
    have e2 : atI N f = (ix N f : Int) := by simp [atI, hh]
    rw [e2] at HA
    have k0 : (0 : Int) ≤ (ix N f : Nat) := by omega
    generalize ix N f = i at *
    obtain ⟨A, c, e⟩ := own_form h.own
    subst e
    have hc := h.c0
    obtain ⟨n, hn⟩ : ∃ n, n = N.length := ⟨_, rfl⟩
    rw [← hn] at hc hl
    have HN := Lib.hid hn
    have n6 : (n : Int) ≤ 5000 := by omega
    have hxl := h.top.lt
    clear h hn hh e2 e1
    go_enter Try.func14, Try.ntmps14
    go_wp2_with (go_at_call 19; refine Calls.mono HA.out ?_; rintro e w' ⟨rfl, rfl⟩)
    go_loopw [5, 6] (fun v i wr => ∃ k : Nat, k ≤ n ∧ i = .int .i64 k ∧ wr.ownsRow w.heap.size 38 2 v (dropL (N.take k) f).length (pcells (dropL (N.take k) f)) ∧ Below w.heap.size w wr) (fun _ i _ => n - (intOf i).toNat)
    case atStart => exact ⟨0, Nat.zero_le _, rfl, ⟨rfl, Or.inl ⟨rfl, rfl⟩⟩, Below.refl _ _⟩
    case round =>
      obtain ⟨k, hk, rfl, hown, hb⟩ := hrel
      have hr := H.out.call hb
      have hc' : wr.cell? ⟨x, 0, none⟩ = some (.slice A n c) := by rw [HN.out]; exact hr.c0
      have HO := Lib.hid hown
      have HB := Lib.hid hb
      by_cases hlt : k < n
      · obtain ⟨g, hA, hgl, -, hit⟩ := hr.items (by have := HN.out; omega)
        subst hA
        obtain ⟨a1, a2⟩ := hit k (by have := HN.out; omega)
        have hkN := Lib.hid hlt
        have k1 : (0 : Int) ≤ k := by omega
        have kl : (k : Int) < n := by omega
        have HD := Lib.hid (dropL_take (N := N) (k := k) (by have := HN.out; omega) f)
        have hM : (dropL (N.take k) f).length ≤ 6000 := by have h1 := dropL_le (N.take k) f; rw [List.length_take] at h1; omega
        obtain ⟨y1, hy1⟩ : ∃ y, y = (at' N k).1 := ⟨_, rfl⟩
        obtain ⟨y2, hy2⟩ : ∃ y, y = (at' N k).2 := ⟨_, rfl⟩
        by_cases hf : y1 = f
        · have HE := Lib.hid (show dropL (N.take (k + 1)) f = dropL (N.take k) f by rw [HD.out, if_pos (by rw [← hy1]; exact hf)])
          rw [← hy1] at a1
          have hne : (y1 == f) = true := by simpa using hf
          clear hown hb hit hr hM hy1 hy2 hf HD hc a2
          go_wp2
          go_roundw
          case rel => exact ⟨k + 1, by have := hkN.out; omega, by go_num, by rw [HE.out]; exact HO.out, HB.out⟩
          case measure => have := hkN.out; simp [intOf]; omega
        · have HE := Lib.hid (show dropL (N.take (k + 1)) f = dropL (N.take k) f ++ [at' N k] by rw [HD.out, if_neg (by rw [← hy1]; exact hf)])
          obtain ⟨A5, c5, W5, r5, o5, g5, t5⟩ := app_run0 hb.size hown hM (at' N k)
          rw [← hy1] at a1 r5
          rw [← hy2] at a2 r5
          have hne : (y1 == f) = false := by simpa using hf
          have HO5 := Lib.hid o5
          have HB5 := Lib.hid (hb.grown g5 hb.size (fun b e => (hown.lt b e).1))
          obtain ⟨Av, cv, ev⟩ := own_form hown
          subst ev
          have HL5 : Hid ((dropL (N.take k) f).length + 1 = (dropL (N.take (k + 1)) f).length) := by show _ = _; rw [HE.out, List.length_append]; rfl
          obtain ⟨mm, hmm⟩ : ∃ mm, mm = (dropL (N.take k) f).length := ⟨_, rfl⟩
          rw [← hmm] at r5 HO5 HL5 ⊢
          clear hown hb hit hr hM hy1 hy2 hf HD hc o5 g5 t5 HO hmm
          go_wp2_with (at_builtin; refine wpList_append_run rfl _ _ 26 rfl (.slice Av mm cv) (.slice (some ⟨wr.heap.size, 0, none⟩) 1 1) rfl rfl r5 ?_)
          go_roundw
          case rel => exact ⟨k + 1, by have := hkN.out; omega, by go_num, by rw [HE.out]; exact HO5.out, HB5.out⟩
          case measure => have := hkN.out; simp [intOf]; omega
      · have hkn : k = n := by omega
        have hd : ¬ (k : Int) < n := by omega
        have HT := Lib.hid (show N.take k = N from List.take_of_length_le (by have := HN.out; omega))
        have hzf : wr.frozen? ⟨x, 0, none⟩ = false := hr.top.frozen 0
        obtain ⟨Av, cv, ev⟩ := own_form hown
        subst ev
        clear hown hb hkn hr hc
        go_wp2
        go_ret
        have how := own_base HO.out H.out.lB
        rw [HT.out] at how ⊢
        have hla := (H.out.call HB.out).laid (w5 := wr) (rv' := .slice Av (dropL N f).length cv) (World.grownBy.refl _ _) how
        refine ⟨rfl, _, hla.1, ⟨(Foot.of_below HB.out).trans hla.2.1 (fun _ h _ => h), fun b e => ?_⟩⟩
        have h1 := HO.out.lt b
        rw [HT.out] at h1
        exact Or.inr (h1 e).1
  · have hno : hasF N f = false := by simpa using hh
    have e1 := Lib.hid (And.intro (dropL_none hno) (show dropE N f = 6 by simp [dropE, hno]))
    have e2 : atI N f = -1 := by simp [atI, hno]
    rw [e2] at HA
    rw [e1.out.1, e1.out.2]
    clear hh hno e2 h hl
    go_enter Try.func14, Try.ntmps14
    go_wp2_with (go_at_call 19; refine Calls.mono HA.out ?_; rintro e w' ⟨rfl, rfl⟩)
    go_ret
    exact didR_same H.out _
/-- What the first comes to. -/
def FirstR (N : List It) (w : World) (e : Ending) (w' : World) : Prop := e = .returned (.tuple #[.agg #[.int .i64 (lst N).1, .int .i64 (lst N).2], .int .i64 (noE N)]) ∧ Below w.heap.size w w'
set_option maxHeartbeats 2000000 in
theorem refFirst_any (h : RefX B w x rv N) (hl : N.length ≤ 5000) :
    Calls Try.prog 16 #[.pointer (some ⟨x, 0, none⟩)] w (FirstR N w) := by
  by_cases hN : 0 < N.length
  · have e1 := Lib.hid (noE_pos hN)
    obtain ⟨A, c, e⟩ := own_form h.own
    subst e
    obtain ⟨g, hA, hgl, hfz, hit⟩ := h.items hN
    subst hA
    have hc := h.c0
    have H := Lib.hid h
    obtain ⟨b1, b2⟩ := hit 0 hN
    rw [Nat.zero_mul] at b1 b2
    have HIT := Lib.hid hit
    obtain ⟨n, hn⟩ : ∃ n, n = N.length := ⟨_, rfl⟩
    rw [← hn] at hc hl hN
    have HN := Lib.hid hn
    have HN0 := Lib.hid hN
    have n6 : (n : Int) ≤ 5000 := by omega
    have n0 : (0 : Int) < n := by omega
    have nz : ((n : Int) == 0) = false := by simpa using (by omega : ¬ (n : Int) = 0)
    have hxl := h.top.lt
    have H1 := Lib.hid (show lst (N.take 1) = at' N 0 by
      cases N with
      | nil => simp at hn; omega
      | cons y r => simp [lst, at'])
    clear h hn hit hfz
    go_enter Try.func16, Try.ntmps16
    go_wp2
    have hr0 : Lrow ((w.alloc (.cells #[.int .i64 0, .int .i64 0] 38)).alloc (.cells #[.int .i64 (at' N 0).1, .int .i64 (at' N 0).2] 38)) w.heap.size 38 [.int .i64 0, .int .i64 0] := (Lrow.new w _ _).alloc _
    have hb0 : Lrow ((w.alloc (.cells #[.int .i64 0, .int .i64 0] 38)).alloc (.cells #[.int .i64 (at' N 0).1, .int .i64 (at' N 0).2] 38)) (w.heap.size + 1) 38 [.int .i64 (at' N 0).1, .int .i64 (at' N 0).2] := by
      have := Lrow.new (w.alloc (.cells #[.int .i64 0, .int .i64 0] 38)) 38 [.int .i64 (at' N 0).1, .int .i64 (at' N 0).2]
      simpa using this
    have hbw : Below w.heap.size w ((w.alloc (.cells #[.int .i64 0, .int .i64 0] 38)).alloc (.cells #[.int .i64 (at' N 0).1, .int .i64 (at' N 0).2] 38)) := ((Below.refl _ _).alloc (Nat.le_refl _) _).alloc (by simp) _
    rw [← H1.out] at hr0 hb0 hbw ⊢
    obtain ⟨r0, er0⟩ : ∃ r0, r0 = w.heap.size := ⟨_, rfl⟩
    obtain ⟨b0, eb0⟩ : ∃ b0, b0 = w.heap.size + 1 := ⟨_, rfl⟩
    rw [← eb0] at hb0 ⊢
    rw [← er0] at hr0 ⊢
    have HS := Lib.hid (And.intro hr0 (And.intro hb0 hbw))
    generalize ((w.alloc (.cells #[.int .i64 0, .int .i64 0] 38)).alloc (.cells #[.int .i64 (lst (N.take 1)).1, .int .i64 (lst (N.take 1)).2] 38)) = w1 at *
    have hrb : r0 < b0 := by omega
    have hwr : w.heap.size ≤ r0 := by omega
    have hwb : w.heap.size ≤ b0 := by omega
    clear hr0 hb0 hbw b1 b2 hc er0 eb0
    go_loopw [5] (fun s wr => ∃ k : Nat, 1 ≤ k ∧ k ≤ n ∧ s = .int .i64 k ∧ Lrow wr r0 38 [.int .i64 0, .int .i64 0] ∧ Lrow wr b0 38 [.int .i64 (lst (N.take k)).1, .int .i64 (lst (N.take k)).2] ∧ Below w.heap.size w wr) (fun s _ => n - (intOf s).toNat)
    case atStart => exact ⟨1, Nat.le_refl _, HN0.out, rfl, HS.out.1, HS.out.2.1, HS.out.2.2⟩
    case round =>
      obtain ⟨k, hk1, hk, rfl, q1, q2, q3⟩ := hrel
      have HS2 := Lib.hid (And.intro q1 (And.intro q2 q3))
      have hr := H.out.call q3
      have hc : wr.cell? ⟨x, 0, none⟩ = some (.slice (some ⟨g, 0, none⟩) n c) := by rw [HN.out]; exact hr.c0
      obtain ⟨c1, ec1⟩ : ∃ z, z = (lst (N.take k)).1 := ⟨_, rfl⟩
      obtain ⟨c2, ec2⟩ : ∃ z, z = (lst (N.take k)).2 := ⟨_, rfl⟩
      have EC := Lib.hid (And.intro ec1 ec2)
      have hb1 : wr.cell? ⟨b0, 0, none⟩ = some (.int .i64 c1) := by rw [ec1]; exact q2.cell 0
      have hb2 : wr.cell? ⟨b0, 1, none⟩ = some (.int .i64 c2) := by rw [ec2]; exact q2.cell 1
      have hf1 := q2.frozen 0
      have hf2 := q2.frozen 1
      have hbl := q2.lt
      have hbn : ¬ b0 = wr.heap.size := by omega
      by_cases hlt : k < n
      · obtain ⟨y1, ey1⟩ : ∃ z, z = (at' N k).1 := ⟨_, rfl⟩
        obtain ⟨y2, ey2⟩ : ∃ z, z = (at' N k).2 := ⟨_, rfl⟩
        have EY := Lib.hid (And.intro ey1 ey2)
        obtain ⟨a1, a2⟩ := HIT.out k (by rw [← HN.out]; exact hlt)
        have a1' : wr.cell? ⟨g, k * 2, none⟩ = some (.int .i64 y1) := by rw [ey1, ← a1]; exact q3.cell hgl
        have a2' : wr.cell? ⟨g, k * 2 + 1, none⟩ = some (.int .i64 y2) := by rw [ey2, ← a2]; exact q3.cell hgl
        have HLT := Lib.hid (lst_take (N := N) (k := k) (by omega) (by rw [← HN.out]; exact hlt))
        have k0 : (0 : Int) ≤ k := by omega
        have kl : (k : Int) < n := by omega
        clear a1 a2 ec1 ec2 ey1 ey2 q1 q2 q3 hr
        by_cases t1 : y2 < c2
        · go_wp2
          go_roundw
          case rel =>
            refine ⟨k + 1, by omega, by omega, by go_num, ((HS2.out.1.far (p := ⟨b0, 0, none⟩) (by show r0 ≠ b0; omega) _).far (p := ⟨b0, 1, none⟩) (by show r0 ≠ b0; omega) _).alloc _, ?_, ((HS2.out.2.2.setCell (p := ⟨b0, 0, none⟩) (by show w.heap.size ≤ b0; omega) _).setCell (p := ⟨b0, 1, none⟩) (by show w.heap.size ≤ b0; omega) _).alloc (by have := HS2.out.2.2.size; simpa [World.setCell] using this) _⟩
            have hy := EY.out
            have hcc := EC.out
            rw [HLT.out, if_pos (by unfold ltB; rw [← hy.1, ← hy.2, ← hcc.1, ← hcc.2]; simp; omega), ← hy.1, ← hy.2]
            exact ((HS2.out.2.1.set_ 0 _).set_ 1 _).alloc _
          case measure => simp [intOf]; omega
        · by_cases t2 : y2 = c2
          · subst t2
            by_cases t3 : y1 < c1
            · go_wp2
              go_roundw
              case rel =>
                refine ⟨k + 1, by omega, by omega, by go_num, ((HS2.out.1.far (p := ⟨b0, 0, none⟩) (by show r0 ≠ b0; omega) _).far (p := ⟨b0, 1, none⟩) (by show r0 ≠ b0; omega) _).alloc _, ?_, ((HS2.out.2.2.setCell (p := ⟨b0, 0, none⟩) (by show w.heap.size ≤ b0; omega) _).setCell (p := ⟨b0, 1, none⟩) (by show w.heap.size ≤ b0; omega) _).alloc (by have := HS2.out.2.2.size; simpa [World.setCell] using this) _⟩
                have hy := EY.out
                have hcc := EC.out
                rw [HLT.out, if_pos (by unfold ltB; rw [← hy.1, ← hy.2, ← hcc.1, ← hcc.2]; simp; omega), ← hy.1, ← hy.2]
                exact ((HS2.out.2.1.set_ 0 _).set_ 1 _).alloc _
              case measure => simp [intOf]; omega
            · go_wp2
              go_roundw
              case rel =>
                refine ⟨k + 1, by omega, by omega, by go_num, HS2.out.1.alloc _, ?_, HS2.out.2.2.alloc HS2.out.2.2.size _⟩
                have hy := EY.out
                have hcc := EC.out
                rw [HLT.out, if_neg (by unfold ltB; rw [← hy.1, ← hy.2, ← hcc.1, ← hcc.2]; simp; omega)]
                exact HS2.out.2.1.alloc _
              case measure => simp [intOf]; omega
          · go_wp2
            go_roundw
            case rel =>
              refine ⟨k + 1, by omega, by omega, by go_num, HS2.out.1.alloc _, ?_, HS2.out.2.2.alloc HS2.out.2.2.size _⟩
              have hy := EY.out
              have hcc := EC.out
              rw [HLT.out, if_neg (by unfold ltB; rw [← hy.1, ← hy.2, ← hcc.1, ← hcc.2]; simp; omega)]
              exact HS2.out.2.1.alloc _
            case measure => simp [intOf]; omega
      · have hkn : k = n := by omega
        have hd : ¬ (k : Int) < n := by omega
        have HT := Lib.hid (show N.take k = N from List.take_of_length_le (by have := HN.out; omega))
        have hz1 := q1.frozen 0
        have hz2 := q1.frozen 1
        have hy1 : wr.cell? ⟨r0, 0, none⟩ = some (.int .i64 0) := q1.cell 0
        have hy2 : wr.cell? ⟨r0, 1, none⟩ = some (.int .i64 0) := q1.cell 1
        clear ec1 ec2 q1 q2 q3 hr hkn hlt
        go_wp2
        unfold FirstR
        rw [e1.out]
        have e5 := EC.out
        rw [HT.out] at e5
        rw [← e5.1, ← e5.2]
        exact bodyPost_ret (v := .tuple #[.agg #[.int .i64 c1, .int .i64 c2], .int .i64 0]) (by simp [results, Try.results16, go_sem, hy1, hy2]) rfl ⟨rfl, (HS2.out.2.2.setCell (by show w.heap.size ≤ r0; omega) _).setCell (by show w.heap.size ≤ r0; omega) _⟩
  · obtain rfl := nil_of hN
    have hc := h.c0
    obtain ⟨A, c, e⟩ := own_form h.own
    subst e
    have hxl := h.top.lt
    have hxn : ¬ x = w.heap.size := by omega
    clear h hl hN
    go_enter Try.func16, Try.ntmps16
    go_wp2
    exact bodyPost_ret (v := .tuple #[.agg #[.int .i64 0, .int .i64 0], .int .i64 6]) (by simp [results, Try.results16, go_sem]) rfl ⟨rfl, (Below.refl _ _).alloc (Nat.le_refl _) _⟩
end
end Go.Proofs.Ytgkliffhdibghaa
