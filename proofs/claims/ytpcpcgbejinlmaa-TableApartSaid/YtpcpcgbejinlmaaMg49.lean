/- The reference of package table: the same leaves are the same. -/
import Derived.Test.YtpcpcgbejinlmaaMg31
import Derived.Test.YtpcpcgbejinlmaaMg46
import Derived.Test.YtpcpcgbejinlmaaMg48
import Derived.Test.YtpcpcgbejinlmaaMg36
namespace Go.Proofs.Ytpcpcgbejinlmaa
open Go.RowKit
section
variable {w : World}
set_option maxRecDepth 100000 in
set_option maxHeartbeats 4000000 in
theorem same8_any {C C' : Nat} {v v' : Value} {L : List Mp} (h : Ms w C v L) (h' : Ms w C' v' L) (hL : L.length ≤ 5000) : Calls Try.prog 18 #[v, v'] w fun e w' => e = .returned (.bool true) ∧ ∃ n, w' = w.drewN n := by
  obtain ⟨A, c, rfl⟩ := h.form
  obtain ⟨A', c', rfl⟩ := h'.form
  obtain ⟨N, hN⟩ : ∃ N, N = L.length := ⟨_, rfl⟩
  have HN := Lib.hid hN
  have HM := Lib.hid h
  have HM' := Lib.hid h'
  rw [← hN] at hL ⊢
  clear h h' hN
  go_enter Try.func18, Try.ntmps18
  go_wp2
  go_loopw [5] (fun i wr => ∃ j k : Nat, j ≤ N ∧ i = .int .i64 j ∧ wr = w.drewN k) (fun i _ => N - (intOf i).toNat)
  case atStart => exact ⟨0, 0, Nat.zero_le _, rfl, rfl⟩
  case round =>
    obtain ⟨j, k, hj, rfl, rfl⟩ := hrel
    by_cases hlt : j < N
    · have hjl : j < L.length := by rw [← HN.out]; exact hlt
      obtain ⟨m, hm⟩ : ∃ m, m = L[j] := ⟨_, rfl⟩
      obtain ⟨a, rfl, -, -, ha⟩ := HM.out.at_ j hjl
      obtain ⟨b, rfl, -, -, hb⟩ := HM'.out.at_ j hjl
      rw [← hm] at ha hb
      have a0 : (w.drewN k).cell? (a.add (j * 9)) = some (.int .i64 m.g) := ha.c0
      have a1 : (w.drewN k).cell? ⟨(a.add (j * 9)).block, (a.add (j * 9)).off + 1, none⟩ = some (.int .i64 m.o) := ha.c1
      have a2 : (w.drewN k).cell? ⟨(a.add (j * 9)).block, (a.add (j * 9)).off + 2, none⟩ = some (.int .i64 m.f) := ha.c2
      have a3 : (w.drewN k).cell? ⟨(a.add (j * 9)).block, (a.add (j * 9)).off + 3, none⟩ = some (.bool m.p) := ha.c3
      have a4 : (w.drewN k).cell? ⟨(a.add (j * 9)).block, (a.add (j * 9)).off + 4, none⟩ = some (.bool m.w) := ha.c4
      have a5 : (w.drewN k).cell? ⟨(a.add (j * 9)).block, (a.add (j * 9)).off + 5, none⟩ = some (.bool m.h) := ha.c5
      have a6 : (w.drewN k).cell? ⟨(a.add (j * 9)).block, (a.add (j * 9)).off + 6, none⟩ = some (.bool m.k) := ha.c6
      have a7 : (w.drewN k).cell? ⟨(a.add (j * 9)).block, (a.add (j * 9)).off + 7, none⟩ = some (.bool m.u) := ha.c7
      have a8 : (w.drewN k).cell? ⟨(a.add (j * 9)).block, (a.add (j * 9)).off + 8, none⟩ = some (.bool m.d) := ha.c8
      have b0 : (w.drewN k).cell? (b.add (j * 9)) = some (.int .i64 m.g) := hb.c0
      have b1 : (w.drewN k).cell? ⟨(b.add (j * 9)).block, (b.add (j * 9)).off + 1, none⟩ = some (.int .i64 m.o) := hb.c1
      have b2 : (w.drewN k).cell? ⟨(b.add (j * 9)).block, (b.add (j * 9)).off + 2, none⟩ = some (.int .i64 m.f) := hb.c2
      have b3 : (w.drewN k).cell? ⟨(b.add (j * 9)).block, (b.add (j * 9)).off + 3, none⟩ = some (.bool m.p) := hb.c3
      have b4 : (w.drewN k).cell? ⟨(b.add (j * 9)).block, (b.add (j * 9)).off + 4, none⟩ = some (.bool m.w) := hb.c4
      have b5 : (w.drewN k).cell? ⟨(b.add (j * 9)).block, (b.add (j * 9)).off + 5, none⟩ = some (.bool m.h) := hb.c5
      have b6 : (w.drewN k).cell? ⟨(b.add (j * 9)).block, (b.add (j * 9)).off + 6, none⟩ = some (.bool m.k) := hb.c6
      have b7 : (w.drewN k).cell? ⟨(b.add (j * 9)).block, (b.add (j * 9)).off + 7, none⟩ = some (.bool m.u) := hb.c7
      have b8 : (w.drewN k).cell? ⟨(b.add (j * 9)).block, (b.add (j * 9)).off + 8, none⟩ = some (.bool m.d) := hb.c8
      have hji : (j : Int) < N := by omega
      obtain ⟨w1, ew⟩ : ∃ w1, w1 = w.drewN k := ⟨_, rfl⟩
      have HW := Lib.hid ew
      rw [← ew] at a0 a1 a2 a3 a4 a5 a6 a7 a8 b0 b1 b2 b3 b4 b5 b6 b7 b8 ⊢
      clear ew ha hb hm hjl
      go_wp2_with fail
      go_quiet (fail)
      go_wp2_with fail
      go_roundw
      case rel => exact ⟨j + 1, k + nq, by omega, by go_num, by rw [HW.out, drewN_add]⟩
      case measure => simp [intOf]; omega
    · have hji : ¬ (j : Int) < N := by omega
      go_wp2
      go_ret
      exact ⟨rfl, k, rfl⟩
end
end Go.Proofs.Ytpcpcgbejinlmaa
/- Package table: the laws' start; what a root's leaves are told to be. -/
namespace Go.Proofs.Ytpcpcgbejinlmaa
open Go.RowKit
section
variable {w W W' : World} {k : Lk} {v v' : Value} {ws L ws' L' : List Int} {v0 : Value} {L0 : List Mp} {v1 : Value} {L1 : List Mp} {lf : Int} {K : Nat}
theorem nice_made (s : Seat) (g x0 x1 m : Nat) (hm : m + 2 ≤ 100) : Nice ⟨s, g, x0, x1, 412 + ((m + 1 : Nat) : Int), 412 + (m : Int), m + 2, []⟩ := by
  refine ⟨hm, ⟨?_, ?_⟩, ⟨?_, ?_⟩⟩ <;> (dsimp only; omega)
theorem made_run (m : Nat) (hm : m + 2 ≤ 100) (w : World) : Calls Try.prog 6 #[.int .i64 ((m + 2 : Nat) : Int)] w fun e W => ∃ k, e = .returned (.pointer (some ⟨k.g, 0, none⟩)) ∧ (Nice k ∧ k.n = m + 2) ∧ ∃ v lf, Lw w W k v k0 (bagL m) (.slice none 0 0) [] (.slice none 0 0) [] lf 0 := by
  refine (made_any w (m + 2) (by omega) hm).mono ?_
  rintro e W ⟨s, v, g, x0, x1, rfl, hmd⟩
  rw [show m + 2 - 2 = m by omega, show m + 2 - 1 = m + 1 by omega] at hmd
  exact ⟨_, rfl, ⟨nice_made s g x0 x1 m hm, rfl⟩, v, _, made_lw hm hmd⟩
def lvR (k : Lk) (ws : List Int) (b : Bool) : List Mp := thL ws [k.r1, k.r0] (k.rt b)
theorem Lw.good (h : Lw w W k v ws L v0 L0 v1 L1 lf K) (b : Bool) : Good ws 3 (k.rt b) := by
  cases b
  · exact h.inv.gr
  · exact h.inv.gq
theorem Nice.fits (h : Nice k) (b : Bool) : Fits (k.rt b) := by
  cases b
  · exact h.r0
  · exact h.r1
theorem rt_mem (k : Lk) (b : Bool) : k.rt b ∈ [k.r1, k.r0] := by
  cases b
  · exact List.mem_cons_of_mem _ List.mem_cons_self
  · exact List.mem_cons_self
theorem lvR_is (k : Lk) (ws : List Int) (b : Bool) : lvR k ws b = (lvs ws 3 (k.rt b) 0).map mpOf := by
  unfold lvR thL
  rw [if_pos (rt_mem k b)]
theorem lvR_len (k : Lk) (ws : List Int) (b : Bool) : (lvR k ws b).length ≤ 5000 := by
  rw [lvR_is, List.length_map]
  have := lvs_len ws 3 (k.rt b) 0
  omega
theorem Lw.leaves (h : Lw w W k v ws L v0 L0 v1 L1 lf K) (hk : Nice k) (b : Bool) :
    Calls Try.prog 14 #[.pointer (some ⟨k.s.x, 0, none⟩), .int .i64 (k.rt b)] W fun e w' => ∃ A c, e = .returned (.slice A (lvR k ws b).length c) ∧ Ms w' W.heap.size (.slice A (lvR k ws b).length c) (lvR k ws b) ∧ Below W.heap.size W w' :=
  leaves_any h.tab (k.rt b) (hk.fits b) (fun _ => h.good b) h.inv.len
theorem Stp.other (b : Bool) (h : Stp ws L ws' L' (k.rt b) (k.rt (!b))) : lvR k ws' (!b) = lvR k ws (!b) := by
  rw [lvR_is, lvR_is, lvs_same 3 _ 0 h.2.2]
theorem Ms.mv {s : Seat} {C : Nat} {u : Value} {M : List Mp} {R : List Int} (h : Ms W C u M) (ht : Tab W s v ws L R) (hm : Mv s v W v' W') : Ms W' C u M := by
  refine h.keep8 fun b hb => hm.foot.keep b (h.lt b hb).2 ?_
  obtain ⟨cur, hc⟩ := h.typed hb
  rintro (e | e | e | e)
  · subst e
    have := ht.ram.row
    unfold Row at this
    rw [this] at hc
    injection hc with hc
    injection hc with _ hc
    exact absurd hc (by decide)
  · subst e
    have := ht.bag.top
    unfold Row at this
    rw [this] at hc
    injection hc with hc
    injection hc with _ hc
    exact absurd hc (by decide)
  · exact ht.set.apart hc e
  · obtain ⟨-, -, cur', hc'⟩ := ht.own e
    rw [hc'] at hc
    injection hc with hc
    injection hc with _ hc
    exact absurd hc (by decide)
end
end Go.Proofs.Ytpcpcgbejinlmaa
