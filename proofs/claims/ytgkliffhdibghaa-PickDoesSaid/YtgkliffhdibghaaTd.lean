/- The contracts of package pick's calls: all of them. -/
import Derived.Test.YtgkliffhdibghaaTc
namespace Go.Proofs.Ytgkliffhdibghaa
open Go.RowKit

/-- Frames by worth, in block p: those of N, in whatever order. -/
structure PickAt (B : Nat) (w : World) (p q m : Nat) (iv : Value) (N : List It) : Prop where
  top : Lrow w p 60 [.pointer (some ⟨q, 0, none⟩)]
  qs : Qs B w q m iv N
  lp : B ≤ p
section
variable {w w' w'' : World} {B p q m n i : Nat} {iv iv' iv'' : Value} {L L' N N' : List It} {M M' : Int → Option Int}
theorem PickAt.call (h : PickAt B w p q m iv N) (hb : Below w.heap.size w w') : PickAt B w' p q m iv N := ⟨h.top.call hb, h.qs.call hb, h.lp⟩
theorem PickAt.alloc (h : PickAt B w p q m iv N) (o : Obj) : PickAt B (w.alloc o) p q m iv N := h.call ((Below.refl _ _).alloc (Nat.le_refl _) o)
theorem PickAt.drewN (h : PickAt B w p q m iv N) (k : Nat) : PickAt B (w.drewN k) p q m iv N := h.call (below_dN (Below.refl _ _) k)
theorem PickAt.drew (h : PickAt B w p q m iv N) : PickAt B w.drew p q m iv N := h.drewN 1
theorem PickAt.perm (h : PickAt B w p q m iv N) (e : N.Perm N') : PickAt B w p q m iv N' := ⟨h.top, h.qs.perm e, h.lp⟩
theorem Qs.other (h : Qs B w q m iv N) {g : Nat} {t : TypeId} {vs : List Value} (r : Lrow w g t vs) (h1 : t ≠ 58) (h2 : t ≠ 55) : ¬ Mine q m iv g := by
  obtain ⟨L, M, hq, _⟩ := h; exact hq.other r h1 h2
theorem Qs.lo (h : Qs B w q m iv N) : ∀ k, Mine q m iv k → B ≤ k := by obtain ⟨L, M, hq, _⟩ := h; exact hq.lo
theorem Qs.lt (h : Qs B w q m iv N) : ∀ k, Mine q m iv k → k < w.heap.size := by obtain ⟨L, M, hq, _⟩ := h; exact hq.lt
theorem Qs.foot {X : Nat → Prop} (h : Qs B w q m iv N) (hf : Foot X w w') (hx : ∀ k, Mine q m iv k → ¬ X k) : Qs B w' q m iv N := by
  obtain ⟨L, M, hq, h2⟩ := h
  exact ⟨L, M, hq.foot hf hx, h2⟩
theorem PickAt.foot {X : Nat → Prop} (h : PickAt B w p q m iv N) (hf : Foot X w w') (hp : ¬ X p) (hx : ∀ k, Mine q m iv k → ¬ X k) : PickAt B w' p q m iv N := ⟨hf.row h.top hp, h.qs.foot hf hx, h.lp⟩
theorem PickAt.c0 (h : PickAt B w p q m iv N) : w.cell? ⟨p, 0, none⟩ = some (.pointer (some ⟨q, 0, none⟩)) := by rw [h.top.cell]; rfl
theorem PickAt.lo (h : PickAt B w p q m iv N) : B ≤ w.heap.size := by have := h.lp; have := h.top.lt; omega
/-- A block of another type is as it was behind a call. -/
theorem Grew.row (g : Grew w w' q m iv iv') (h : Qs B w q m iv N) {b : Nat} {t : TypeId} {vs : List Value} (r : Lrow w b t vs) (h1 : t ≠ 58) (h2 : t ≠ 55) : Lrow w' b t vs := g.foot.row r (h.other r h1 h2)
theorem Grew.below (g : Grew w w' q m iv iv') (h : Qs B w q m iv N) (hB : B ≤ w.heap.size) : Below B w w' := g.foot.below hB h.lo
theorem Qs.len (h : Qs B w q m iv N) : ∃ A c, iv = .slice A N.length c ∧ w.cell? ⟨q, 0, none⟩ = some (.slice A N.length c) := by
  obtain ⟨L, M, hq, _, hp⟩ := h
  obtain ⟨A, c, e⟩ := own_form hq.own
  refine ⟨A, c, by rw [← hp.length_eq]; exact e, ?_⟩
  rw [← hp.length_eq, ← e]
  exact hq.c0
end
theorem find_none {w : World} {q m n : Nat} {M : Int → Option Int} (hc : w.cell? ⟨q, 1, none⟩ = some (.map (some m))) (hm : MapIs w m n M) {f : Int} (hf : Fits f) (hM : M f = none) :
    Calls Try.prog 24 #[.pointer (some ⟨q, 0, none⟩), .int .i64 f] w fun e w' => e = .returned (.tuple #[.int .i64 0, .int .i64 6]) ∧ w = w' := by
  refine (find_some hc hm hf).mono ?_
  rintro e w' ⟨rfl, (⟨k, hk, -⟩ | ⟨-, rfl⟩)⟩
  · rw [hM] at hk; cases hk
  · exact ⟨rfl, rfl⟩
theorem find_at {w : World} {q m n : Nat} {M : Int → Option Int} (hc : w.cell? ⟨q, 1, none⟩ = some (.map (some m))) (hm : MapIs w m n M) {f : Int} (hf : Fits f) {k : Int} (hM : M f = some k) :
    Calls Try.prog 24 #[.pointer (some ⟨q, 0, none⟩), .int .i64 f] w fun e w' => e = .returned (.tuple #[.int .i64 k, .int .i64 0]) ∧ w = w' := by
  refine (find_some hc hm hf).mono ?_
  rintro e w' ⟨rfl, (⟨k2, hk, rfl⟩ | ⟨hk, -⟩)⟩
  · rw [hM] at hk; injection hk with hk; subst hk; exact ⟨rfl, rfl⟩
  · rw [hM] at hk; cases hk
/-- What a call comes to: its answer, and the frames behind it. -/
def Did (B : Nat) (w : World) (p q m : Nat) (iv : Value) (N : List It) (r : Value) (e : Ending) (w' : World) : Prop :=
  e = .returned r ∧ ∃ iv', PickAt B w' p q m iv' N ∧ Grew w w' q m iv iv'
theorem did_of {B : Nat} {w w' : World} {p q m : Nat} {iv iv' : Value} {N N' : List It} {r : Value} (h : PickAt B w p q m iv N) (hq : Qs B w' q m iv' N') (hg : Grew w w' q m iv iv') : Did B w p q m iv N' r (.returned r) w' :=
  ⟨rfl, iv', ⟨hg.row h.qs h.top (by decide) (by decide), hq, h.lp⟩, hg⟩
section
variable {w : World} {B p q m : Nat} {iv : Value} {N : List It}
set_option maxHeartbeats 1000000 in
theorem pickPut_any (h : PickAt B w p q m iv N) {f v : Int} (hv : Fits v) (hl : N.length < 5000) :
    Calls Try.prog 11 #[.pointer (some ⟨p, 0, none⟩), .int .i64 f, .int .i64 v] w (Did B w p q m iv (putL N f v) (.int .i64 (putE f))) := by
  have hc := h.c0
  have H := Lib.hid h
  by_cases hneg : f < 0
  · have hfB : frB f = false := by simp [frB]; omega
    have e1 := Lib.hid (And.intro (putL_no (N := N) (w := v) hfB) (show putE f = 3 by simp [putE, hfB]))
    clear hfB h
    go_enter Try.func11, Try.ntmps11
    go_wp2_with (go_at_call 22; refine (lower_some hc).mono ?_; rintro e w' ⟨rfl, rfl⟩)
    go_ret
    rw [e1.out.1, e1.out.2]
    exact did_of H.out H.out.qs (Grew.of_below (Below.refl _ _))
  · by_cases hbig : f ≤ 1023
    · have hf : 0 ≤ f ∧ f ≤ 1023 := by omega
      have hfB : frB f = true := by simp [frB, hf]
      have e1 := Lib.hid (show putE f = 0 by simp [putE, hfB])
      have HP := Lib.hid (put_any h.qs hf hv hl)
      have hlt : f < 1024 := by omega
      have h0 : 0 ≤ f := by omega
      clear hfB h hf hneg
      go_enter Try.func11, Try.ntmps11
      go_wp2_with (first | (go_at_call 22; refine (lower_some hc).mono ?_; rintro e w' ⟨rfl, rfl⟩) | (go_at_call 23; refine Calls.mono HP.out ?_; rintro e w' ⟨rfl, iv', g1, g2⟩))
      go_ret
      rw [e1.out]
      exact did_of H.out g1 g2
    · have hfB : frB f = false := by simp [frB]; omega
      have e1 := Lib.hid (And.intro (putL_no (N := N) (w := v) hfB) (show putE f = 3 by simp [putE, hfB]))
      have hge : 1024 ≤ f := by omega
      have h0 : 0 ≤ f := by omega
      clear hfB h hneg hbig
      go_enter Try.func11, Try.ntmps11
      go_wp2_with (go_at_call 22; refine (lower_some hc).mono ?_; rintro e w' ⟨rfl, rfl⟩)
      go_ret
      rw [e1.out.1, e1.out.2]
      exact did_of H.out H.out.qs (Grew.of_below (Below.refl _ _))
set_option maxHeartbeats 1000000 in
theorem pickDrop_any (h : PickAt B w p q m iv N) {f : Int} (hf : Fits f) :
    Calls Try.prog 13 #[.pointer (some ⟨p, 0, none⟩), .int .i64 f] w (Did B w p q m iv (dropL N f) (.int .i64 (dropE N f))) := by
  have hc := h.c0
  have H := Lib.hid h
  obtain ⟨L, M, hq, hh, hp⟩ := h.qs
  cases hM : M f with
  | none =>
    have hno : hasF N f = false := (hq.idx.none_iff hp f).1 hM
    have e1 := Lib.hid (And.intro (dropL_none hno) (show dropE N f = 6 by simp [dropE, hno]))
    have HF := Lib.hid (find_none hq.c1 hq.map hf hM)
    clear hno hM h hq hh hp
    go_enter Try.func13, Try.ntmps13
    go_wp2_with (first | (go_at_call 22; refine (lower_some hc).mono ?_; rintro e w' ⟨rfl, rfl⟩) | (go_at_call 24; refine Calls.mono HF.out ?_; rintro e w' ⟨rfl, rfl⟩))
    go_ret
    rw [e1.out.1, e1.out.2]
    exact did_of H.out H.out.qs (Grew.of_below (Below.refl _ _))
  | some kk =>
    obtain ⟨k, rfl, hkl, hke⟩ := hq.idx.of f kk hM
    have hyes : hasF N f = true := by rw [← hasF_perm hp f]; exact hasF_iff.2 ⟨_, at_mem hkl, hke⟩
    have e1 := Lib.hid (show dropE N f = 0 by simp [dropE, hyes])
    have HF := Lib.hid (find_at hq.c1 hq.map hf hM)
    have HR := Lib.hid (remove_any hq hh hkl)
    have HK := Lib.hid (And.intro hke (And.intro hp hq.idx.dst))
    clear hyes hM h hq hh hp hke
    go_enter Try.func13, Try.ntmps13
    go_wp2_with (first | (go_at_call 22; refine (lower_some hc).mono ?_; rintro e w' ⟨rfl, rfl⟩) | (go_at_call 24; refine Calls.mono HF.out ?_; rintro e w' ⟨rfl, rfl⟩) | (go_at_call 25; refine Calls.mono HR.out ?_; rintro e w' ⟨rfl, iv', L', g1, g2, g3⟩))
    go_ret
    have hpp := dropL_of (N := N) (L := L') (x := at' L k) (HK.out.2.2.perm HK.out.2.1) (HK.out.2.1.symm.trans g2)
    rw [HK.out.1] at hpp
    rw [e1.out]
    exact did_of H.out (g1.perm hpp.symm) g3
theorem pickLen_any (h : PickAt B w p q m iv N) :
    Calls Try.prog 20 #[.pointer (some ⟨p, 0, none⟩)] w fun e w' => e = .returned (.int .i64 N.length) ∧ w = w' := by
  have hc := h.c0
  obtain ⟨A, c, -, hc2⟩ := h.qs.len
  clear h
  generalize N.length = n at *
  go_enter Try.func20, Try.ntmps20
  go_wp2_with (first | (go_at_call 22; refine (lower_some hc).mono ?_; rintro e w' ⟨rfl, rfl⟩) | (go_at_call 29; refine (len_some hc2).mono ?_; rintro e w' ⟨rfl, rfl⟩))
  go_ret
  exact ⟨rfl, rfl⟩
set_option maxHeartbeats 1000000 in
theorem pickWorth_any (h : PickAt B w p q m iv N) {f : Int} (hf : Fits f) :
    Calls Try.prog 18 #[.pointer (some ⟨p, 0, none⟩), .int .i64 f] w fun e w' => e = .returned (.tuple #[.int .i64 (worV N f), .int .i64 (dropE N f)]) ∧ w = w' := by
  have hc := h.c0
  obtain ⟨L, M, hq, hh, hp⟩ := h.qs
  cases hM : M f with
  | none =>
    have hno : hasF N f = false := (hq.idx.none_iff hp f).1 hM
    have e1 := Lib.hid (And.intro (show worV N f = 0 by simp [worV, hno]) (show dropE N f = 6 by simp [dropE, hno]))
    have HF := Lib.hid (find_none hq.c1 hq.map hf hM)
    clear hno hM h hq hh hp
    go_enter Try.func18, Try.ntmps18
    go_wp2_with (first | (go_at_call 22; refine (lower_some hc).mono ?_; rintro e w' ⟨rfl, rfl⟩) | (go_at_call 24; refine Calls.mono HF.out ?_; rintro e w' ⟨rfl, rfl⟩))
    go_ret2
    rw [e1.out.1, e1.out.2]
    exact ⟨rfl, rfl⟩
  | some kk =>
    have hyes : hasF N f = true := by
      cases hx : hasF N f with
      | true => rfl
      | false => rw [(hq.idx.none_iff hp f).2 hx] at hM; cases hM
    obtain ⟨k, hk, hkl, hke, hkv⟩ := hq.idx.some_ hp hyes
    have e1 := Lib.hid (show dropE N f = 0 by simp [dropE, hyes])
    have HF := Lib.hid (find_at hq.c1 hq.map hf hk)
    obtain ⟨A, c, hiv⟩ := own_form hq.own
    subst hiv
    obtain ⟨g, hA, hcc, hcm, hgl, hB, hfz, hit⟩ := hq.items (by omega)
    subst hA
    obtain ⟨-, a2⟩ := hit k hkl
    rw [hkv] at a2
    have hk0 := hq.c0
    have k0 : (0 : Int) ≤ k := by omega
    have kl : (k : Int) < L.length := by omega
    clear hyes hM h hq hh hp hke hk hkv hit hfz hcc hcm hgl hB
    generalize L.length = n at *
    generalize worV N f = u at *
    go_enter Try.func18, Try.ntmps18
    go_wp2_with (first | (go_at_call 22; refine (lower_some hc).mono ?_; rintro e w' ⟨rfl, rfl⟩) | (go_at_call 24; refine Calls.mono HF.out ?_; rintro e w' ⟨rfl, rfl⟩))
    go_ret2
    rw [e1.out]
    exact ⟨rfl, rfl⟩
end
/-- The first one, in a struct. -/
def Told (x : It) (w : World) (e : Ending) (w' : World) : Prop := e = .returned (.agg #[.int .i64 x.1, .int .i64 x.2]) ∧ Below w.heap.size w w'
set_option maxHeartbeats 1000000 in
theorem first_any {B : Nat} {w : World} {q m : Nat} {iv : Value} {L : List It} {M : Int → Option Int} (h : Que B w q m iv L M) (hl : 0 < L.length) :
    Calls Try.prog 28 #[.pointer (some ⟨q, 0, none⟩)] w (Told (at' L 0) w) := by
  obtain ⟨A, c, hiv⟩ := own_form h.own
  subst hiv
  obtain ⟨g, hA, hcc, hcm, hgl, hB, hfz, hit⟩ := h.items hl
  subst hA
  obtain ⟨a1, a2⟩ := hit 0 hl
  have hk0 := h.c0
  rw [Nat.zero_mul] at a1 a2
  have l0 : (0 : Int) < L.length := by omega
  have hql := h.top.lt
  unfold Told
  clear hit hfz h hcc hcm hB
  generalize (at' L 0).1 = x at *
  generalize (at' L 0).2 = v at *
  generalize L.length = n at *
  go_enter Try.func28, Try.ntmps28
  go_wp2
  exact bodyPost_ret (v := .agg #[.int .i64 x, .int .i64 v]) (by simp [results, Try.results28, go_sem]) rfl ⟨rfl, (Below.refl _ _).alloc (Nat.le_refl _) _⟩
end Go.Proofs.Ytgkliffhdibghaa
