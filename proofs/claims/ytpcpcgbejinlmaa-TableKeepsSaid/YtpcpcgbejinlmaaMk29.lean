/- The reference of package table: a leaf that stands just there; one more, and some less. -/
import Derived.Test.YtpcpcgbejinlmaaMk15
import Derived.Test.YtpcpcgbejinlmaaMk28
import Derived.Deep.Cut
namespace Go.Proofs.Ytpcpcgbejinlmaa
open Go.RowKit
section
variable {w : World} {C x : Nat} {v : Value} {L : List Mp}
def atF (L : List Mp) (g o : Int) : Int := match L.findIdx? (fun m => hoB m g) with | some k => (match L[k]? with | some m => if m.g = g ∧ m.o = o then (k : Int) else -1 | none => -1) | none => -1
theorem at_none {L : List Mp} {q o : Int} (h : hoF L q = -1) : atF L q o = -1 := by
  unfold hoF at h; unfold atF
  split at h
  · rename_i k e; omega
  · rename_i e; rw [e]
theorem at_some {L : List Mp} {q o : Int} {k : Nat} (h : hoF L q = k) (hk : k < L.length) : atF L q o = if L[k].g = q ∧ L[k].o = o then (k : Int) else -1 := by
  unfold hoF at h; unfold atF
  split at h
  · rename_i z e
    obtain rfl : z = k := by omega
    rw [e]; simp only [List.getElem?_eq_getElem hk]
  · omega
theorem at_found (L : List Mp) (q o : Int) : atF L q o = -1 ∨ ∃ (k : Nat) (h : k < L.length), atF L q o = k ∧ L[k].g = q ∧ L[k].o = o := by
  rcases ho_found L q with h | ⟨k, h, hk, -⟩
  · exact Or.inl (at_none h)
  · rw [at_some h hk]
    split
    · rename_i e; exact Or.inr ⟨k, hk, rfl, e.1, e.2⟩
    · exact Or.inl rfl
set_option maxHeartbeats 1000000 in
theorem at_is (h : RfT w C x v L) (q o : Int) (q0 : 0 ≤ q) (q1 : q ≤ 5000) : Calls Try.prog 62 #[.pointer (some ⟨x, 0, none⟩), .int .i64 q, .int .i64 o] w fun e w' => e = .returned (.int .i64 (atF L q o)) ∧ ∃ n, w' = w.drewN n := by
  have hh := holds_is h q q0 q1
  obtain ⟨A, c, rfl⟩ := h.ms.form
  have hc : w.cell? ⟨x, 0, none⟩ = some (.slice A L.length c) := h.top.cell 0
  obtain ⟨N, hN⟩ : ∃ N, N = L.length := ⟨_, rfl⟩
  have HN := Lib.hid hN
  rw [← hN] at hc
  have hn5 : N ≤ 5000 := by rw [hN]; exact h.len
  have H := Lib.hid h
  clear h hN
  go_enter Try.func62, Try.ntmps62
  go_wp2_with fail
  refine hh.mono ?_
  rintro e w' ⟨rfl, nd, rfl⟩
  have hcw : (w.drewN nd).cell? ⟨x, 0, none⟩ = some (.slice A N c) := hc
  rcases ho_found L q with hf | ⟨k, hf, hk, -⟩
  · have HA := Lib.hid (at_none (o := o) hf)
    rw [hf]
    clear hf
    go_wp2_with fail
    go_ret
    exact ⟨by rw [HA.out]; rfl, nd, rfl⟩
  · have HA := Lib.hid (at_some (o := o) hf hk)
    rw [hf]
    clear hf
    have hkN : k < N := by rw [HN.out]; exact hk
    obtain ⟨a, rfl, -, -, m0, m1, -⟩ := H.out.ms.at_ k hk
    obtain ⟨g, hg⟩ : ∃ g, g = L[k].g := ⟨_, rfl⟩
    obtain ⟨b, hb⟩ : ∃ b, b = L[k].o := ⟨_, rfl⟩
    rw [← hg] at m0
    rw [← hb] at m1
    have HG := Lib.hid hg
    have HB := Lib.hid hb
    have M0 : (w.drewN nd).cell? (a.add (k * 9)) = some (.int .i64 g) := m0
    have M1 : (w.drewN nd).cell? ⟨(a.add (k * 9)).block, (a.add (k * 9)).off + 1, none⟩ = some (.int .i64 b) := m1
    have HH := Lib.hid hh
    clear m0 m1 hg hb hc hh
    cases e1 : (g != q)
    · cases e2 : (b != o)
      · go_wp2_with fail
        go_ret
        exact ⟨by rw [HA.out, if_pos ⟨by rw [← HG.out]; simpa using e1, by rw [← HB.out]; simpa using e2⟩]; rfl, nd, rfl⟩
      · go_wp2_with fail
        go_ret
        exact ⟨by rw [HA.out, if_neg (fun h => by rw [← HB.out] at h; simp at e2; exact e2 h.2)]; rfl, nd, rfl⟩
    · go_wp2_with fail
      go_ret
      exact ⟨by rw [HA.out, if_neg (fun h => by rw [← HG.out] at h; simp at e1; exact e1 h.1)]; rfl, nd, rfl⟩
end
theorem Ms.app2 {w : World} {C : Nat} {v : Value} {L : List Mp} (h : Ms w C v L) (hC : C ≤ w.heap.size) (hL : L.length ≤ 100000) (m : Mp) : ∃ A c w3,
    (Builtin.append_ #[53, 53] 53 #[v, .slice (some ⟨w.heap.size, 0, none⟩) 1 1]).run Try.prog (w.alloc (.cells (mcell m).toArray 94)) = .ok (.slice A (L.length + 1) c) w3 ∧
    Ms w3 C (.slice A (L.length + 1) c) (L ++ [m]) ∧ Below C w w3 := by
  obtain ⟨A, c, w3, r, o, g⟩ := h.app hC hL m
  exact ⟨A, c, w3, r, o, (Below.refl C w).grown g hC fun k e => (h.lt k e).1⟩
def Told (w : World) (Q : List Mp → Prop) (e : Ending) (w' : World) : Prop := ∃ v M, e = .returned v ∧ Ms w' w.heap.size v M ∧ Q M ∧ Below w.heap.size w w'
theorem drewN_b {B : Nat} {a w : World} (h : Below B a w) (n : Nat) : Below B a (w.drewN n) := ⟨h.os, h.tape, h.output, h.size, h.block⟩
section
variable {w : World} {C : Nat} {A : Option Addr} {c : Nat} {L : List Mp}
set_option maxRecDepth 100000 in
set_option maxHeartbeats 2000000 in
theorem without_any (h : Ms w C (.slice A L.length c) L) (hok : ∀ m ∈ L, MK m) (hL : L.length ≤ 5000) (q n : Int) (q0 : 0 ≤ q) (q1 : q ≤ 5000) : Calls Try.prog 78 #[.slice A L.length c, .int .i64 q, .int .i64 n] w (Told w fun M => M.length ≤ L.length ∧ ∀ m ∈ M, m ∈ L) := by
  obtain ⟨N, hN⟩ : ∃ N, N = L.length := ⟨_, rfl⟩
  have HN := Lib.hid hN
  have HM := Lib.hid h
  have HO := Lib.hid hok
  rw [← hN] at hL ⊢
  clear h hok hN
  go_enter Try.func78, Try.ntmps78
  go_wp2
  go_loopw [7, 8] (fun out i wr => ∃ (j : Nat) (M : List Mp), j ≤ N ∧ i = .int .i64 j ∧ Ms wr w.heap.size out M ∧ M.length ≤ j ∧ (∀ m ∈ M, m ∈ L) ∧ Below w.heap.size w wr) (fun _ i _ => N - (intOf i).toNat)
  case atStart => exact ⟨0, [], Nat.zero_le _, rfl, Ms.nil _ _, Nat.le_refl _, (fun m hm => absurd hm (by simp)), Below.refl _ _⟩
  case round =>
    obtain ⟨j, M, hj, rfl, hm, hml, hmem, hb⟩ := hrel
    by_cases hlt : j < N
    · have hjL : j < L.length := by rw [← HN.out]; exact hlt
      obtain ⟨a, ea, al, -, at'⟩ := HM.out.at_ j hjL
      subst ea
      have hab : (a.add (j * 9)).block < w.heap.size := by rw [add_block]; exact al
      obtain ⟨m, em⟩ : ∃ m, m = L[j] := ⟨_, rfl⟩
      have HMEM : Hid (m ∈ L) := by rw [em]; exact List.getElem_mem _
      have hmo := HO.out m HMEM.out
      rw [← em] at at'
      have m0 := (hb.cell hab).trans at'.c0
      have m1 := (hb.cell (p := ⟨_, _, none⟩) hab).trans at'.c1
      have m2 := (hb.cell (p := ⟨_, _, none⟩) hab).trans at'.c2
      have m3 := (hb.cell (p := ⟨_, _, none⟩) hab).trans at'.c3
      have m4 := (hb.cell (p := ⟨_, _, none⟩) hab).trans at'.c4
      have m5 := (hb.cell (p := ⟨_, _, none⟩) hab).trans at'.c5
      have m6 := (hb.cell (p := ⟨_, _, none⟩) hab).trans at'.c6
      have m7 := (hb.cell (p := ⟨_, _, none⟩) hab).trans at'.c7
      have m8 := (hb.cell (p := ⟨_, _, none⟩) hab).trans at'.c8
      have g0 := hmo.g0
      have g1 := hmo.g1
      obtain ⟨A', c', rfl⟩ := hm.form
      obtain ⟨A5, c5, W5, r5, o5, b5⟩ := hm.app2 hb.size (by omega) m
      simp only [mcell] at r5
      have O5 := Lib.hid o5
      have B5 := Lib.hid (hb.trans b5)
      have HB := Lib.hid hb
      have HMS := Lib.hid hm
      have HMM := Lib.hid hmem
      obtain ⟨K, hK⟩ : ∃ K, K = M.length := ⟨_, rfl⟩
      rw [← hK] at r5 O5 hml HMS ⊢
      have HKK := Lib.hid hK
      clear hK at' em hmo o5 b5 hb hm hmem hab al
      cases e1 : decide (m.g < q)
      · cases e2 : decide (n ≤ m.g - q)
        · go_wp2_with fail
          go_roundw
          case rel => exact ⟨j + 1, M, by omega, by go_num, HMS.out, by have := HKK.out; omega, HMM.out, HB.out⟩
          case measure => simp [intOf]; omega
        · go_wp2_with (at_builtin; refine wpList_append_run rfl _ _ 53 rfl (.slice A' K c') (.slice (some ⟨wr.heap.size, 0, none⟩) 1 1) rfl rfl r5 ?_)
          go_roundw
          case rel => exact ⟨j + 1, M ++ [m], by omega, by go_num, O5.out, by have := HKK.out; simp; omega, (fun y hy => by rcases List.mem_append.1 hy with h | h; exact HMM.out y h; rw [List.mem_singleton.1 h]; exact HMEM.out), B5.out⟩
          case measure => simp [intOf]; omega
      · go_wp2_with (at_builtin; refine wpList_append_run rfl _ _ 53 rfl (.slice A' K c') (.slice (some ⟨wr.heap.size, 0, none⟩) 1 1) rfl rfl r5 ?_)
        go_roundw
        case rel => exact ⟨j + 1, M ++ [m], by omega, by go_num, O5.out, by have := HKK.out; simp; omega, (fun y hy => by rcases List.mem_append.1 hy with h | h; exact HMM.out y h; rw [List.mem_singleton.1 h]; exact HMEM.out), B5.out⟩
        case measure => simp [intOf]; omega
    · obtain rfl : j = N := by omega
      have HX : Hid (M.length ≤ j ∧ ∀ m ∈ M, m ∈ L) := ⟨hml, hmem⟩
      have HMS := Lib.hid hm
      have HB := Lib.hid hb
      clear hm hmem hb hml
      go_wp2_with fail
      go_ret
      exact ⟨_, M, rfl, HMS.out, HX.out, HB.out⟩
set_option maxRecDepth 100000 in
set_option maxHeartbeats 4000000 in
theorem with_any (h : Ms w C (.slice A L.length c) L) (hok : ∀ m ∈ L, MK m) (hL : L.length ≤ 5000) (x : Mp) : Calls Try.prog 83 #[.slice A L.length c, .agg (mcell x).toArray] w (Told w fun M => M.length = L.length + 1 ∧ ∀ m ∈ M, m ∈ L ∨ m = x) := by
  obtain ⟨N, hN⟩ : ∃ N, N = L.length := ⟨_, rfl⟩
  have HN := Lib.hid hN
  have HM := Lib.hid h
  have HO := Lib.hid hok
  obtain ⟨q, hq⟩ : ∃ q, q = w.heap.size := ⟨_, rfl⟩
  have HQ := Lib.hid hq
  obtain ⟨w0, hw0⟩ : ∃ w0, w0 = w.alloc (.cells #[.int .i64 x.g, .int .i64 x.o, .int .i64 x.f, .bool x.p, .bool x.w, .bool x.h, .bool x.k, .bool x.u, .bool x.d] 94) := ⟨_, rfl⟩
  have HW0 := Lib.hid hw0
  have r0 : Row w0 q 94 (mcell x) := by rw [hw0, hq]; exact Row.new w _ (mcell x)
  have b0 : Below w.heap.size w w0 := by rw [hw0]; exact (Below.refl _ _).alloc (Nat.le_refl _) _
  have hD : q + 1 ≤ w0.heap.size := r0.lt
  have hqw := Lib.hid (show w.heap.size ≤ q + 1 by omega)
  rw [← hN] at hL ⊢
  unfold mcell
  clear h hok hN hw0 hq
  go_enter Try.func83, Try.ntmps83
  go_upto_region 1 with (fail)
  rw [← HW0.out, ← HQ.out]
  go_wp2
  go_loopw [5, 6, 7] (fun out dn i wr => ∃ (j : Nat) (b : Bool) (M : List Mp), j ≤ N ∧ i = .int .i64 j ∧ dn = .bool b ∧ Ms wr (q + 1) out M ∧ M.length = j + b.toNat ∧ (∀ m ∈ M, m ∈ L ∨ m = x) ∧ Row wr q 94 (mcell x) ∧ Below w.heap.size w wr ∧ q + 1 ≤ wr.heap.size) (fun _ _ i _ => N - (intOf i).toNat)
  case atStart => exact ⟨0, false, [], Nat.zero_le _, rfl, rfl, Ms.nil _ _, rfl, (fun m hm => absurd hm (by simp)), r0, b0, hD⟩
  case round =>
    obtain ⟨j, b, M, hj, rfl, rfl, hm, hml, hmem, hr, hb, hsz⟩ := hrel
    clear r0 b0 hD
    have x0 : wr.cell? ⟨q, 0, none⟩ = some (.int .i64 x.g) := hr.cell 0
    have x1 : wr.cell? ⟨q, 1, none⟩ = some (.int .i64 x.o) := hr.cell 1
    have x2 : wr.cell? ⟨q, 2, none⟩ = some (.int .i64 x.f) := hr.cell 2
    have x3 : wr.cell? ⟨q, 3, none⟩ = some (.bool x.p) := hr.cell 3
    have x4 : wr.cell? ⟨q, 4, none⟩ = some (.bool x.w) := hr.cell 4
    have x5 : wr.cell? ⟨q, 5, none⟩ = some (.bool x.h) := hr.cell 5
    have x6 : wr.cell? ⟨q, 6, none⟩ = some (.bool x.k) := hr.cell 6
    have x7 : wr.cell? ⟨q, 7, none⟩ = some (.bool x.u) := hr.cell 7
    have x8 : wr.cell? ⟨q, 8, none⟩ = some (.bool x.d) := hr.cell 8
    have hbn : b.toNat ≤ 1 := by cases b <;> simp
    obtain ⟨A', c', rfl⟩ := hm.form
    by_cases hlt : j < N
    · have hjL : j < L.length := by rw [← HN.out]; exact hlt
      obtain ⟨a, ea, al, -, at'⟩ := HM.out.at_ j hjL
      subst ea
      have hab : (a.add (j * 9)).block < w.heap.size := by rw [add_block]; exact al
      obtain ⟨m, em⟩ : ∃ m, m = L[j] := ⟨_, rfl⟩
      have HMEM : Hid (m ∈ L) := by rw [em]; exact List.getElem_mem _
      rw [← em] at at'
      have AT := Lib.hid at'
      have HAB := Lib.hid hab
      have HMS := Lib.hid hm
      have HMM := Lib.hid hmem
      have HML := Lib.hid hml
      have HR := Lib.hid hr
      have HB := Lib.hid hb
      have HSZ := Lib.hid hsz
      have k0 := (hb.cell hab).trans at'.c0
      have hlenM : M.length = j + b.toNat := hml
      obtain ⟨K, hK⟩ : ∃ K, K = M.length := ⟨_, rfl⟩
      have HKK := Lib.hid hK
      have hKb : K ≤ 5001 := by omega
      clear at' em hab al hm hmem hml hr hb hsz x1 x2 x3 x4 x5 x6 x7 x8
      rw [← hK]
      clear hK hlenM
      by_cases hins : b = false ∧ x.g < m.g
      · obtain ⟨rfl, hgt⟩ := hins
        have hd : decide (x.g < m.g) = true := by simpa using hgt
        go_wp2_with fail
        go_quiet (fail)
        obtain ⟨w1, ew⟩ : ∃ w1, w1 = wr.drewN nq := ⟨_, rfl⟩
        have HM1 : Hid (Ms w1 (q + 1) (.slice A' M.length c') M) := ew ▸ HMS.out
        have HR1 : Hid (Row w1 q 94 (mcell x)) := ew ▸ HR.out
        have HB1 : Hid (Below w.heap.size w w1) := ew ▸ drewN_b HB.out nq
        have HZ1 : Hid (q + 1 ≤ w1.heap.size) := ew ▸ HSZ.out
        rw [← ew]
        clear ew
        obtain ⟨A4, c4, W4, r4, o4, b4⟩ := HM1.out.app2 HZ1.out (by rw [← HKK.out]; omega) x
        have hz4 : q + 1 ≤ W4.heap.size := Nat.le_trans HZ1.out b4.size
        obtain ⟨A5, c5, W5, r5, o5, b5⟩ := o4.app2 hz4 (by rw [List.length_append, ← HKK.out]; simp; omega) m
        have hr4 := HR1.out.below b4 (by omega)
        have hb4 := HB1.out.trans (b4.mono hqw.out)
        have HB5 := Lib.hid (hb4.trans (b5.mono hqw.out))
        have HR5 := Lib.hid (hr4.below b5 (by omega))
        have HZ5 := Lib.hid (show q + 1 ≤ W5.heap.size from Nat.le_trans hz4 b5.size)
        rw [List.length_append, List.length_singleton, ← HKK.out] at o5
        have O5 := Lib.hid o5
        simp only [mcell] at r4 r5
        rw [List.length_append, List.length_singleton] at r5
        rw [← HKK.out] at r4 r5
        clear k0 x0
        have x0 : w1.cell? ⟨q, 0, none⟩ = some (.int .i64 x.g) := HR1.out.cell 0
        have x1 : w1.cell? ⟨q, 1, none⟩ = some (.int .i64 x.o) := HR1.out.cell 1
        have x2 : w1.cell? ⟨q, 2, none⟩ = some (.int .i64 x.f) := HR1.out.cell 2
        have x3 : w1.cell? ⟨q, 3, none⟩ = some (.bool x.p) := HR1.out.cell 3
        have x4 : w1.cell? ⟨q, 4, none⟩ = some (.bool x.w) := HR1.out.cell 4
        have x5 : w1.cell? ⟨q, 5, none⟩ = some (.bool x.h) := HR1.out.cell 5
        have x6 : w1.cell? ⟨q, 6, none⟩ = some (.bool x.k) := HR1.out.cell 6
        have x7 : w1.cell? ⟨q, 7, none⟩ = some (.bool x.u) := HR1.out.cell 7
        have x8 : w1.cell? ⟨q, 8, none⟩ = some (.bool x.d) := HR1.out.cell 8
        have k0 := (hb4.cell HAB.out).trans AT.out.c0
        have k1 := (hb4.cell (p := ⟨_, _, none⟩) HAB.out).trans AT.out.c1
        have k2 := (hb4.cell (p := ⟨_, _, none⟩) HAB.out).trans AT.out.c2
        have k3 := (hb4.cell (p := ⟨_, _, none⟩) HAB.out).trans AT.out.c3
        have k4 := (hb4.cell (p := ⟨_, _, none⟩) HAB.out).trans AT.out.c4
        have k5 := (hb4.cell (p := ⟨_, _, none⟩) HAB.out).trans AT.out.c5
        have k6 := (hb4.cell (p := ⟨_, _, none⟩) HAB.out).trans AT.out.c6
        have k7 := (hb4.cell (p := ⟨_, _, none⟩) HAB.out).trans AT.out.c7
        have k8 := (hb4.cell (p := ⟨_, _, none⟩) HAB.out).trans AT.out.c8
        clear o4 o5 b4 b5 hb4 hr4 hz4
        go_wp2_with (first | (at_builtin; refine wpList_append_run rfl _ _ 53 rfl (.slice A' K c') (.slice (some ⟨w1.heap.size, 0, none⟩) 1 1) rfl rfl r4 ?_) | (at_builtin; refine wpList_append_run rfl _ _ 53 rfl (.slice A4 (K + 1) c4) (.slice (some ⟨W4.heap.size, 0, none⟩) 1 1) rfl rfl r5 ?_))
        go_roundw
        case rel => exact ⟨j + 1, true, (M ++ [x]) ++ [m], by omega, by go_num, rfl, O5.out, by have := HML.out; simp at this ⊢; omega, (fun y hy => by rcases List.mem_append.1 hy with h | h; rcases List.mem_append.1 h with h | h; exact HMM.out y h; exact Or.inr (List.mem_singleton.1 h); exact Or.inl (by rw [List.mem_singleton.1 h]; exact HMEM.out)), HR5.out, HB5.out, HZ5.out⟩
        case measure => simp [intOf]; omega
      · cases b
        · have hd : decide (x.g < m.g) = false := by simp; apply Classical.byContradiction; intro k; exact hins ⟨rfl, by omega⟩
          clear hins
          go_wp2_with fail
          go_quiet (fail)
          obtain ⟨w1, ew⟩ : ∃ w1, w1 = wr.drewN nq := ⟨_, rfl⟩
          have HM1 : Hid (Ms w1 (q + 1) (.slice A' M.length c') M) := ew ▸ HMS.out
          have HR1 : Hid (Row w1 q 94 (mcell x)) := ew ▸ HR.out
          have HB1 : Hid (Below w.heap.size w w1) := ew ▸ drewN_b HB.out nq
          have HZ1 : Hid (q + 1 ≤ w1.heap.size) := ew ▸ HSZ.out
          rw [← ew]
          clear ew
          obtain ⟨A4, c4, W4, r4, o4, b4⟩ := HM1.out.app2 HZ1.out (by rw [← HKK.out]; omega) m
          have HB4 := Lib.hid (HB1.out.trans (b4.mono hqw.out))
          have HR4 := Lib.hid (HR1.out.below b4 (by omega))
          have HZ4 := Lib.hid (show q + 1 ≤ W4.heap.size from Nat.le_trans HZ1.out b4.size)
          rw [← HKK.out] at o4
          have O4 := Lib.hid o4
          simp only [mcell] at r4
          rw [← HKK.out] at r4
          clear k0 x0
          have k0 := (HB1.out.cell HAB.out).trans AT.out.c0
          have k1 := (HB1.out.cell (p := ⟨_, _, none⟩) HAB.out).trans AT.out.c1
          have k2 := (HB1.out.cell (p := ⟨_, _, none⟩) HAB.out).trans AT.out.c2
          have k3 := (HB1.out.cell (p := ⟨_, _, none⟩) HAB.out).trans AT.out.c3
          have k4 := (HB1.out.cell (p := ⟨_, _, none⟩) HAB.out).trans AT.out.c4
          have k5 := (HB1.out.cell (p := ⟨_, _, none⟩) HAB.out).trans AT.out.c5
          have k6 := (HB1.out.cell (p := ⟨_, _, none⟩) HAB.out).trans AT.out.c6
          have k7 := (HB1.out.cell (p := ⟨_, _, none⟩) HAB.out).trans AT.out.c7
          have k8 := (HB1.out.cell (p := ⟨_, _, none⟩) HAB.out).trans AT.out.c8
          clear o4 b4
          go_wp2_with (at_builtin; refine wpList_append_run rfl _ _ 53 rfl (.slice A' K c') (.slice (some ⟨w1.heap.size, 0, none⟩) 1 1) rfl rfl r4 ?_)
          go_roundw
          case rel => exact ⟨j + 1, false, M ++ [m], by omega, by go_num, rfl, O4.out, by have := HML.out; simp at this ⊢; omega, (fun y hy => by rcases List.mem_append.1 hy with h | h; exact HMM.out y h; exact Or.inl (by rw [List.mem_singleton.1 h]; exact HMEM.out)), HR4.out, HB4.out, HZ4.out⟩
          case measure => simp [intOf]; omega
        · clear hins
          go_wp2_with fail
          go_quiet (fail)
          obtain ⟨w1, ew⟩ : ∃ w1, w1 = wr.drewN nq := ⟨_, rfl⟩
          have HM1 : Hid (Ms w1 (q + 1) (.slice A' M.length c') M) := ew ▸ HMS.out
          have HR1 : Hid (Row w1 q 94 (mcell x)) := ew ▸ HR.out
          have HB1 : Hid (Below w.heap.size w w1) := ew ▸ drewN_b HB.out nq
          have HZ1 : Hid (q + 1 ≤ w1.heap.size) := ew ▸ HSZ.out
          rw [← ew]
          clear ew
          obtain ⟨A4, c4, W4, r4, o4, b4⟩ := HM1.out.app2 HZ1.out (by rw [← HKK.out]; omega) m
          have HB4 := Lib.hid (HB1.out.trans (b4.mono hqw.out))
          have HR4 := Lib.hid (HR1.out.below b4 (by omega))
          have HZ4 := Lib.hid (show q + 1 ≤ W4.heap.size from Nat.le_trans HZ1.out b4.size)
          rw [← HKK.out] at o4
          have O4 := Lib.hid o4
          simp only [mcell] at r4
          rw [← HKK.out] at r4
          clear k0 x0
          have k0 := (HB1.out.cell HAB.out).trans AT.out.c0
          have k1 := (HB1.out.cell (p := ⟨_, _, none⟩) HAB.out).trans AT.out.c1
          have k2 := (HB1.out.cell (p := ⟨_, _, none⟩) HAB.out).trans AT.out.c2
          have k3 := (HB1.out.cell (p := ⟨_, _, none⟩) HAB.out).trans AT.out.c3
          have k4 := (HB1.out.cell (p := ⟨_, _, none⟩) HAB.out).trans AT.out.c4
          have k5 := (HB1.out.cell (p := ⟨_, _, none⟩) HAB.out).trans AT.out.c5
          have k6 := (HB1.out.cell (p := ⟨_, _, none⟩) HAB.out).trans AT.out.c6
          have k7 := (HB1.out.cell (p := ⟨_, _, none⟩) HAB.out).trans AT.out.c7
          have k8 := (HB1.out.cell (p := ⟨_, _, none⟩) HAB.out).trans AT.out.c8
          clear o4 b4
          go_wp2_with (at_builtin; refine wpList_append_run rfl _ _ 53 rfl (.slice A' K c') (.slice (some ⟨w1.heap.size, 0, none⟩) 1 1) rfl rfl r4 ?_)
          go_roundw
          case rel => exact ⟨j + 1, true, M ++ [m], by omega, by go_num, rfl, O4.out, by have := HML.out; simp at this ⊢; omega, (fun y hy => by rcases List.mem_append.1 hy with h | h; exact HMM.out y h; exact Or.inl (by rw [List.mem_singleton.1 h]; exact HMEM.out)), HR4.out, HB4.out, HZ4.out⟩
          case measure => simp [intOf]; omega
    · obtain rfl : j = N := by omega
      cases b
      · obtain ⟨A4, c4, W4, r4, o4, b4⟩ := hm.app2 hsz (by omega) x
        have hml' : M.length = j := by simpa using hml
        simp only [mcell] at r4
        rw [hml'] at r4
        have HX : Hid ((M ++ [x]).length = j + 1 ∧ ∀ m ∈ M ++ [x], m ∈ L ∨ m = x) := ⟨by simp [hml'], fun y hy => by
          rcases List.mem_append.1 hy with h | h
          · exact hmem y h
          · exact Or.inr (List.mem_singleton.1 h)⟩
        rw [hml'] at o4
        have HO4 := Lib.hid (o4.base hqw.out)
        have HB4 := Lib.hid (hb.trans (b4.mono hqw.out))
        rw [hml']
        clear hm hml hml' hmem hr hb o4 b4 hbn
        go_wp2_with (at_builtin; refine wpList_append_run rfl _ _ 53 rfl (.slice A' j c') (.slice (some ⟨wr.heap.size, 0, none⟩) 1 1) rfl rfl r4 ?_)
        go_ret
        exact ⟨_, _, rfl, HO4.out, HX.out, HB4.out⟩
      · have HX : Hid (M.length = j + 1 ∧ ∀ m ∈ M, m ∈ L ∨ m = x) := ⟨by simpa using hml, hmem⟩
        have HO4 := Lib.hid (hm.base hqw.out)
        have HB4 := Lib.hid hb
        clear hm hml hmem hr hb hbn
        go_wp2_with fail
        go_ret
        exact ⟨_, _, rfl, HO4.out, HX.out, HB4.out⟩
end
end Go.Proofs.Ytpcpcgbejinlmaa
