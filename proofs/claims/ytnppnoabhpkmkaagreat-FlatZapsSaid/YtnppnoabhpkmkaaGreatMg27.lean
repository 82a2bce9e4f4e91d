/- The reference of spaces: one space, or one object, has turned. -/
import Derived.Test.YtnppnoabhpkmkaaGreatMg26
namespace Go.Proofs.YtnppnoabhpkmkaaGreat
open Go.RowKit
section
variable {w w' : World} {B : Nat} {T : RfT} {F : Fl} {s s' : SpB} {S S' : Sp}
theorem getElem_inj {α β : Type} {L : List α} (f : α → β) (hd : (L.map f).Nodup) {i j : Nat} (hi : i < L.length) (hj : j < L.length) (e : f L[i] = f L[j]) : i = j := by
  have h := List.pairwise_map.1 hd
  rcases Nat.lt_trichotomy i j with c | c | c
  · exact absurd e (List.pairwise_iff_getElem.1 h i j hi hj c)
  · exact c
  · exact absurd e.symm (List.pairwise_iff_getElem.1 h j i hj hi c)
theorem put_get {j i : Nat} (hi : i < F.L.length) : i < (put F (j : Int) S').L.length ∧ ∀ h, (put F (j : Int) S').L[i]'h = if i = j then S' else F.L[i] := by
  refine ⟨by show i < (F.L.set _ _).length; rw [List.length_set]; exact hi, fun h => ?_⟩
  show (F.L.set (j : Int).toNat S')[i]'_ = _
  simp only [Int.toNat_natCast, List.getElem_set]
  by_cases e : j = i
  · rw [if_pos e, if_pos e.symm]
  · rw [if_neg e, if_neg (fun k => e k.symm)]
theorem sp_at {j : Nat} (hj : j < F.L.length) : sp F (j : Int) = F.L[j] := by
  unfold sp
  rw [Int.toNat_natCast, List.getD_eq_getElem?_getD, List.getElem?_eq_getElem hj]; rfl
/-- One space has turned. -/
theorem RfAt.putS (h : RfAt B w T F) {j : Nat} (hj : j < F.L.length) (hs : T.LS[j]? = some s) (e1 : s'.sb = s.sb) (e2 : s'.ab = s.ab) (e3 : s'.wq = s.wq) (hf : Foot (fun k => k = s.sb ∨ k = s.ab ∨ k = s.wq.1) w w') (hS : SpAt B w' s' S') : DidF B w T (put F j S') w' := by
  have hjl : j < T.LS.length := by rw [h.nl]; exact hj
  have hsj : T.LS[j] = s := by rw [List.getElem?_eq_getElem hjl] at hs; injection hs
  have hsp := h.sps j hjl hj
  rw [hsj] at hsp
  have hmap : ∀ {β : Type} (f : SpB → β), f s' = f s → (T.LS.set j s').map f = T.LS.map f := fun {β} f e => by
    rw [List.map_set, e, ← hsj]
    have : f T.LS[j] = (T.LS.map f)[j]'(by rw [List.length_map]; exact hjl) := by rw [List.getElem_map]
    rw [this, List.set_getElem_self]
  have kk : ∀ k, k < w.heap.size → k ≠ s.sb → k ≠ s.ab → k ≠ s.wq.1 → w'.heap[k]? = w.heap[k]? := fun k hk h1 h2 h3 => hf.keep k hk (fun e => by rcases e with e | e | e; exact h1 e; exact h2 e; exact h3 e)
  obtain ⟨⟨wvs, wr⟩, _⟩ := hsp.wds.block
  have kr : ∀ {g : Nat} {t : TypeId} {vs : List Value}, Lrow w g t vs → t ≠ 52 → t ≠ 48 → t ≠ 23 → w'.heap[g]? = w.heap[g]? := fun {g t vs} r h1 h2 h3 => kk g r.lt (r.apart hsp.top h1) (r.apart hsp.ars.top h2) (r.apart wr h3)
  refine ⟨{ T with LS := T.LS.set j s' }, rfl, ⟨?_, ?_, ?_, ?_, h.no, fun i hi h2 => ?_, fun i hi h2 => ?_, ?_, ?_, ?_, h.lo⟩, ?_, ?_⟩
  · exact (kr h.top (by decide) (by decide) (by decide)).trans h.top
  · show ESp.Own B w' T.vl ((T.LS.set j s').map SpB.sb)
    rw [hmap SpB.sb e1]
    refine h.ls.heap fun g e => ?_
    obtain ⟨vs, r, _⟩ := h.ls.block e
    exact kr r (by decide) (by decide) (by decide)
  · refine h.os.heap fun g e => ?_
    obtain ⟨vs, r, _⟩ := h.os.block e
    exact kr r (by decide) (by decide) (by decide)
  · show (T.LS.set j s').length = (F.L.set _ _).length
    rw [List.length_set, List.length_set]; exact h.nl
  · have hi' : i < T.LS.length := by have hi : i < (T.LS.set j s').length := hi; rw [List.length_set] at hi; exact hi
    have hi2 : i < F.L.length := by rw [← h.nl]; exact hi'
    rw [(put_get hi2).2 h2]
    show SpAt B w' ((T.LS.set j s')[i]'_) _
    rw [List.getElem_set]
    by_cases e : j = i
    · rw [if_pos e, if_pos e.symm]; exact hS
    · rw [if_neg e, if_neg (fun k => e k.symm)]
      have hi3 := h.sps i hi' hi2
      have n1 : T.LS[i].sb ≠ s.sb := fun k => e (getElem_inj SpB.sb h.dS hjl hi' (by rw [hsj]; exact k.symm))
      have n2 : T.LS[i].ab ≠ s.ab := fun k => e (getElem_inj SpB.ab h.dA hjl hi' (by rw [hsj]; exact k.symm))
      have n3 : T.LS[i].wq.1 ≠ s.wq.1 := fun k => e (getElem_inj (fun z => z.wq.1) (List.nodup_append.1 h.dW).1 hjl hi' (by rw [hsj]; exact k.symm))
      obtain ⟨⟨uvs, ur⟩, _⟩ := hi3.wds.block
      refine hi3.keep hf.size (fun k hk => ?_) fun k vs r => kr r (by decide) (by decide) (by decide)
      rcases hk with rfl | rfl | rfl
      · exact kk _ hi3.top.lt n1 (hi3.top.apart hsp.ars.top (by decide)) (hi3.top.apart wr (by decide))
      · exact kk _ hi3.ars.top.lt (hi3.ars.top.apart hsp.top (by decide)) n2 (hi3.ars.top.apart wr (by decide))
      · exact kk _ ur.lt (ur.apart hsp.top (by decide)) (ur.apart hsp.ars.top (by decide)) n3
  · have ho := h.obs i hi h2
    obtain ⟨⟨us, r⟩, _⟩ := ho.block
    refine ho.heap (kk _ r.lt (r.apart hsp.top (by decide)) (r.apart hsp.ars.top (by decide)) (fun k => ?_))
    exact (List.nodup_append.1 h.dW).2.2 s.wq.1 (List.mem_map.2 ⟨s, by rw [← hsj]; exact List.getElem_mem hjl, rfl⟩) (T.LO[i]).1 (List.mem_map.2 ⟨_, List.getElem_mem hi, rfl⟩) k.symm
  · show ((T.LS.set j s').map SpB.sb).Nodup
    rw [hmap SpB.sb e1]; exact h.dS
  · show ((T.LS.set j s').map SpB.ab).Nodup
    rw [hmap SpB.ab e2]; exact h.dA
  · show (((T.LS.set j s').map fun z => z.wq.1) ++ T.LO.map Prod.fst).Nodup
    rw [hmap (fun z => z.wq.1) (by rw [e3])]; exact h.dW
  · refine hf.mono fun k hk => Or.inr (Or.inr (Or.inr (Or.inl ⟨s, by rw [← hsj]; exact List.getElem_mem hjl, ?_⟩)))
    rcases hk with e | e | e
    · exact Or.inl e
    · exact Or.inr (Or.inl e)
    · exact Or.inr (Or.inr e)
  · rintro k (rfl | e | e | ⟨z, hz, hk⟩ | ⟨q, hq, rfl⟩)
    · exact Or.inl (Or.inl rfl)
    · exact Or.inl (Or.inr (Or.inl e))
    · exact Or.inl (Or.inr (Or.inr (Or.inl e)))
    · rcases List.mem_or_eq_of_mem_set hz with hz | rfl
      · exact Or.inl (Or.inr (Or.inr (Or.inr (Or.inl ⟨z, hz, hk⟩))))
      · have hm : s ∈ T.LS := by rw [← hsj]; exact List.getElem_mem hjl
        rcases hk with rfl | rfl | rfl
        · exact Or.inl (Or.inr (Or.inr (Or.inr (Or.inl ⟨s, hm, Or.inl e1⟩))))
        · exact Or.inl (Or.inr (Or.inr (Or.inr (Or.inl ⟨s, hm, Or.inr (Or.inl e2)⟩))))
        · exact Or.inl (Or.inr (Or.inr (Or.inr (Or.inl ⟨s, hm, Or.inr (Or.inr (by rw [e3]))⟩))))
    · exact Or.inl (Or.inr (Or.inr (Or.inr (Or.inr ⟨q, hq, rfl⟩))))
/-- The own words of one space have turned. -/
theorem RfAt.putW (h : RfAt B w T F) {j : Nat} (hj : j < F.L.length) (hs : T.LS[j]? = some s) {W : Int → Int} (hg : w.grownBy w' (some s.wq.1)) (hW : WIs B w' s.wq W) : DidF B w T (put F j { sp F j with W := W }) w' := by
  have hjl : j < T.LS.length := by rw [h.nl]; exact hj
  have hsj : T.LS[j] = s := by rw [List.getElem?_eq_getElem hjl] at hs; injection hs
  have hsp := h.sps j hjl hj
  rw [hsj, ← sp_at hj] at hsp
  exact h.putS hj hs rfl rfl rfl (Foot.grown hg (Or.inr (Or.inr rfl))) (hsp.word hg hW)
/-- The words of one object have turned. -/
theorem RfAt.putO (h : RfAt B w T F) {o : Nat} (ho : o < F.O.length) {q : Nat × Nat} (hq : T.LO[o]? = some q) {W : Int → Int} (hg : w.grownBy w' (some q.1)) (hW : WIs B w' q W) {F' : Fl} (eL : F'.L = F.L) (eO : F'.O = F.O.set o W) : DidF B w T F' w' := by
  have hol : o < T.LO.length := by rw [h.no]; exact ho
  have hqo : T.LO[o] = q := by rw [List.getElem?_eq_getElem hol] at hq; injection hq
  have hwq := h.obs o hol ho
  rw [hqo] at hwq
  obtain ⟨⟨wvs, wr⟩, _⟩ := hwq.block
  have kk : ∀ k, k < w.heap.size → k ≠ q.1 → w'.heap[k]? = w.heap[k]? := fun k hk hne => hg.block k hk (by intro e; injection e with e; exact hne e)
  have kr : ∀ {g : Nat} {t : TypeId} {vs : List Value}, Lrow w g t vs → t ≠ 23 → w'.heap[g]? = w.heap[g]? := fun {g t vs} r h3 => kk g r.lt (r.apart wr h3)
  have hd := List.nodup_append.1 h.dW
  refine ⟨T, rfl, ⟨(kr h.top (by decide)).trans h.top, h.ls.heap fun g e => ?_, h.os.heap fun g e => ?_, by rw [eL]; exact h.nl, by rw [eO, List.length_set]; exact h.no, fun i hi h2 => ?_, fun i hi h2 => ?_, h.dS, h.dA, h.dW, h.lo⟩, Foot.grown hg (Or.inr (Or.inr (Or.inr (Or.inr ⟨q, by rw [← hqo]; exact List.getElem_mem hol, rfl⟩)))), fun _ e => Or.inl e⟩
  · obtain ⟨vs, r, _⟩ := h.ls.block e
    exact kr r (by decide)
  · obtain ⟨vs, r, _⟩ := h.os.block e
    exact kr r (by decide)
  · have hi2 : i < F.L.length := by rw [← h.nl]; exact hi
    have e : F'.L[i]'h2 = F.L[i] := by simp only [eL]
    rw [e]
    have hsp := h.sps i hi hi2
    obtain ⟨⟨uvs, ur⟩, _⟩ := hsp.wds.block
    refine hsp.keep hg.size (fun k hk => ?_) fun k vs r => kr r (by decide)
    rcases hk with rfl | rfl | rfl
    · exact kr hsp.top (by decide)
    · exact kr hsp.ars.top (by decide)
    · exact kk _ ur.lt (fun e => hd.2.2 (T.LS[i]).wq.1 (List.mem_map.2 ⟨_, List.getElem_mem hi, rfl⟩) q.1 (List.mem_map.2 ⟨q, by rw [← hqo]; exact List.getElem_mem hol, rfl⟩) e)
  · have hi2 : i < F.O.length := by rw [← h.no]; exact hi
    have e : F'.O[i]'h2 = if o = i then W else F.O[i] := by simp only [eO, List.getElem_set]
    rw [e]
    by_cases c : o = i
    · rw [if_pos c]
      subst c
      rw [hqo]; exact hW
    · rw [if_neg c]
      have hw2 := h.obs i hi hi2
      exact hw2.heap (kk _ hw2.lt (fun e2 => c (getElem_inj Prod.fst hd.2.1 hol hi (by rw [hqo]; exact e2.symm))))
/-- 'f.O' as a slice, and the words of an object. -/
theorem RfAt.obj (h : RfAt B w T F) {A : Option Addr} {n c : Nat} (hv : T.vo = .slice A n c) : n = F.O.length ∧ ∀ o : Nat, o < F.O.length → ∃ g q, A = some ⟨g, 0, none⟩ ∧ T.LO[o]? = some q ∧ w.cell? ⟨g, o, none⟩ = some (.slice (some ⟨q.1, 0, none⟩) 32768 q.2) ∧ WIs B w q (F.O.getD o (fun _ => 0)) := by
  have ho := h.os
  rw [hv] at ho
  have hn : n = T.LO.length := by obtain ⟨_, _, e⟩ := ho.form; injection e
  rw [h.no] at hn
  refine ⟨hn, fun o hoo => ?_⟩
  have hi2 : o < T.LO.length := by rw [h.no]; exact hoo
  obtain ⟨g, e, _, _, _, hat⟩ := ho.some_ (by omega)
  have h0 := hat o hi2 0 (by decide)
  rw [show o * EOw.sz + 0 = o from by show o * 1 + 0 = o; omega] at h0
  have hw := h.obs o hi2 hoo
  refine ⟨g, _, e, List.getElem?_eq_getElem hi2, h0, ?_⟩
  rw [List.getD_eq_getElem?_getD, List.getElem?_eq_getElem hoo]
  exact hw
end
end Go.Proofs.YtnppnoabhpkmkaaGreat
/- The reference of spaces: Cell, Word, Areas. -/
namespace Go.Proofs.YtnppnoabhpkmkaaGreat
open Go.RowKit
/-- Where an address's word is. -/
def CellAt (T : RfT) (s : SpB) (S : Sp) (a : Int) (q : Nat × Nat) (n : Nat) : Prop :=
  n < 32768 ∧ ((¬ shr (S.P (a / 64)).h ∧ q = s.wq ∧ (n : Int) = a / 8) ∨ (shr (S.P (a / 64)).h ∧ T.LO[(S.P (a / 64)).o.toNat]? = some q ∧ (n : Int) = (S.P (a / 64)).x * 8 + a / 8 % 8))
def CellF (T : RfT) (s : SpB) (S : Sp) (a : Int) (w : World) (e : Ending) (w' : World) : Prop :=
  ∃ A m c i, e = .returned (.tuple #[.slice A m c, .int .i64 i, .int .i64 (celE 10 4 S a)]) ∧ Below w.heap.size w w' ∧ (celE 10 4 S a = 0 → ∃ (q : Nat × Nat) (n : Nat), A = some ⟨q.1, 0, none⟩ ∧ m = 32768 ∧ c = q.2 ∧ i = n ∧ CellAt T s S a q n)
section
variable {w w' : World} {B : Nat} {T : RfT} {F : Fl} {s s' : SpB} {S S' : Sp}
set_option maxRecDepth 100000 in
set_option maxHeartbeats 2000000 in
theorem rcell_is (h : RfAt B w T F) (hF : FlOk F) {j : Nat} (hj : j < F.L.length) (hs : T.LS[j]? = some s) (a : Int) : Calls Tryz.prog 20 #[.pointer (some ⟨T.xa, 0, none⟩), .pointer (some ⟨s.sb, 0, none⟩), .int .i64 a] w (CellF T s (sp F j) a w) := by
  have hsp := h.sps j (by rw [h.nl]; exact hj) hj
  rw [show T.LS[j]'(by rw [h.nl]; exact hj) = s by rw [List.getElem?_eq_getElem (by rw [h.nl]; exact hj)] at hs; injection hs, ← sp_at hj] at hsp
  have hok := hF.sp (j : Int)
  obtain ⟨S, hS⟩ : ∃ S, S = sp F (j : Int) := ⟨_, rfl⟩
  rw [← hS] at hsp hok ⊢
  by_cases c1 : a < 0 ∨ 262143 < a
  · have e : celE 10 4 S a = 10 := by unfold celE; rw [if_pos c1]
    have HE : Hid (CellF T s S a w (.returned (.tuple #[.slice none 0 0, .int .i64 0, .int .i64 10])) w) := ⟨none, 0, 0, 0, by rw [e], Below.refl _ _, fun k => by rw [e] at k; cases k⟩
    clear h hsp hok e hS
    by_cases c0 : a < 0
    · clear c1
      go_enter Tryz.func20, Tryz.ntmps20
      go_wp2
      go_ret3
      exact HE.out
    · have c1' : 262143 < a := by omega
      clear c1
      go_enter Tryz.func20, Tryz.ntmps20
      go_wp2
      go_ret3
      exact HE.out
  · obtain ⟨k, rfl⟩ : ∃ k : Nat, a = k := ⟨a.toNat, by omega⟩
    have k0 : (0 : Int) ≤ k := by omega
    have k1 : (k : Int) ≤ 262143 := by omega
    by_cases c2 : (k : Int) % 8 ≠ 0
    · have e : celE 10 4 S k = 4 := by unfold celE; rw [if_neg c1, if_pos c2]
      have HE : Hid (CellF T s S k w (.returned (.tuple #[.slice none 0 0, .int .i64 0, .int .i64 4])) w) := ⟨none, 0, 0, 0, by rw [e], Below.refl _ _, fun k => by rw [e] at k; cases k⟩
      clear h hsp hok e c1 hS
      go_enter Tryz.func20, Tryz.ntmps20
      go_wp2
      go_ret3
      exact HE.out
    · have c2' : (k : Int) % 8 = 0 := by omega
      obtain ⟨g, cc, hv, -, -, hat⟩ := hsp.ars.form
      have d0 := hsp.c0
      have d1 := hsp.c1
      have d2 := hsp.ars.c0
      rw [hv] at d2
      have hp := pg_at (hat (k / 64) (by omega))
      obtain ⟨m, hm⟩ : ∃ m : Nat, (k : Int) / 64 = m := ⟨k / 64, by omega⟩
      have hmk : k / 64 = m := by omega
      rw [hmk] at hp
      obtain ⟨M, hM⟩ : ∃ M : Nat, M = 4096 := ⟨_, rfl⟩
      obtain ⟨M2, hM2⟩ : ∃ M : Nat, M = 32768 := ⟨_, rfl⟩
      rw [← hM] at d2
      rw [← hM2] at d1
      have m4 : (m : Int) < (M : Int) := by omega
      have m0 : (0 : Int) ≤ m := by omega
      obtain ⟨x, hx⟩ : ∃ x, x = S.P m := ⟨_, rfl⟩
      rw [← hx] at hp
      obtain ⟨xh, xp, xo, xx⟩ := x
      obtain ⟨p0, p1, p2, p3⟩ := hp
      dsimp only at p0 p1 p2 p3
      have eE : celE 10 4 S k = if xh = 0 then 10 else 0 := by unfold celE; rw [if_neg c1, if_neg (by omega), hm, ← hx]
      obtain ⟨W, hW⟩ : ∃ W, W = w.alloc (.cells #[.int .i64 xh, .int .i64 xp, .int .i64 xo, .int .i64 xx] 45) := ⟨_, rfl⟩
      obtain ⟨b, hb⟩ : ∃ b, b = w.heap.size := ⟨_, rfl⟩
      have hbW : Below w.heap.size w W := by rw [hW]; exact below_new _ _
      have rW : Lrow W b 45 [.int .i64 xh, .int .i64 xp, .int .i64 xo, .int .i64 xx] := by rw [hW, hb]; exact Lrow.new w _ [.int .i64 xh, .int .i64 xp, .int .i64 xo, .int .i64 xx]
      have q0 : W.cell? ⟨b, 0, none⟩ = some (.int .i64 xh) := rW.cell 0
      have q2 : W.cell? ⟨b, 2, none⟩ = some (.int .i64 xo) := rW.cell 2
      have q3 : W.cell? ⟨b, 3, none⟩ = some (.int .i64 xx) := rW.cell 3
      have HW := Lib.hid (And.intro hW hb)
      have HBW := Lib.hid hbW
      by_cases hz : xh = 0
      · subst hz
        rw [if_pos rfl] at eE
        have HE : Hid (∀ w', Below w.heap.size w w' → CellF T s S k w (.returned (.tuple #[.slice none 0 0, .int .i64 0, .int .i64 10])) w') := fun w' hb' => ⟨none, 0, 0, 0, by rw [eE], hb', fun k => by rw [eE] at k; cases k⟩
        clear h hsp hok eE c1 c2 hW hb hbW rW q2 q3 hat hv hx hmk hM hM2 hS d1
        go_enter Tryz.func20, Tryz.ntmps20
        go_upto_region 6 with (fail)
        rw [← HW.out.1, ← HW.out.2]
        go_wp2_with fail
        go_ret3
        exact HE.out _ HBW.out
      · rw [if_neg hz] at eE
        by_cases hsh : shr xh
        · have hob := hok.obj m (by rw [← hx]; exact hsh)
          rw [← hx] at hob
          obtain ⟨ob0, ob1, ob2, ob3⟩ := hob
          dsimp only at ob0 ob1 ob2 ob3
          obtain ⟨Av, cv, hvo⟩ := h.os.form
          obtain ⟨hno, hobj⟩ := h.obj hvo
          obtain ⟨o, rfl⟩ : ∃ o : Nat, xo = o := ⟨xo.toNat, by omega⟩
          obtain ⟨y, rfl⟩ : ∃ y : Nat, xx = y := ⟨xx.toNat, by omega⟩
          obtain ⟨go, q, rfl, hq, hc, -⟩ := hobj o (by omega)
          have v1 : W.cell? ⟨T.xa, 1, none⟩ = some T.vo := (h.call hbW).c1
          rw [hvo, hno] at v1
          have v2 : W.cell? ⟨go, o, none⟩ = some (.slice (some ⟨q.1, 0, none⟩) 32768 q.2) := by
            obtain ⟨vs, r, _⟩ := h.os.block (by rw [hvo]; rfl)
            exact (hbW.cell (p := ⟨go, o, none⟩) r.lt).trans hc
          rw [← hM2] at v2
          have o0 : (0 : Int) ≤ o := by omega
          have ol : (o : Int) < (F.O.length : Int) := by omega
          have y4 : (y : Int) < 4096 := by omega
          have hsd : decide (shr xh) = true := decide_eq_true hsh
          obtain ⟨z, hz8⟩ : ∃ z : Nat, (k : Int) / 8 % 8 = z := ⟨k / 8 % 8, by omega⟩
          have HE : Hid (∀ w', Below w.heap.size w w' → CellF T s S k w (.returned (.tuple #[.slice (some ⟨q.1, 0, none⟩) M2 q.2, .int .i64 ((y : Int) * 8 + (k : Int) / 8 % 8), .int .i64 0])) w') := fun w' hb' =>
            ⟨_, _, _, _, by rw [eE], hb', fun _ => ⟨q, y * 8 + z, rfl, hM2, rfl, by omega, by omega, Or.inr (by rw [hm, ← hx]; exact ⟨hsh, by rw [Int.toNat_natCast]; exact hq, by dsimp only; omega⟩)⟩⟩
          generalize F.O.length = no at *
          clear h hsp hok eE c1 c2 hW hb hbW rW hat hv hx hmk hM hM2 hS hobj hc hq hno hvo hsh ob0 ob1 ob2 ob3 d1 hz8
          have hz2 : (xh == 0) = false := by simpa using hz
          go_enter Tryz.func20, Tryz.ntmps20
          go_upto_region 6 with (fail)
          rw [← HW.out.1, ← HW.out.2]
          go_wp2_with (go_at_call 15; refine (shared_is _ _).mono ?_; rintro e w1 ⟨rfl, rfl⟩; rw [hsd])
          go_quiet (fail)
          go_wp2_with fail
          go_ret3
          exact HE.out _ (below_dN HBW.out _)
        · have hsd : decide (shr xh) = false := decide_eq_false hsh
          have dW1 : W.cell? ⟨s.sb, 1, none⟩ = some (.slice (some ⟨s.wq.1, 0, none⟩) M2 s.wq.2) := (hbW.cell (p := ⟨s.sb, 1, none⟩) hsp.top.lt).trans d1
          obtain ⟨z, hz8⟩ : ∃ z : Nat, (k : Int) / 8 = z := ⟨k / 8, by omega⟩
          have HE : Hid (∀ w', Below w.heap.size w w' → CellF T s S k w (.returned (.tuple #[.slice (some ⟨s.wq.1, 0, none⟩) M2 s.wq.2, .int .i64 ((k : Int) / 8), .int .i64 0])) w') := fun w' hb' =>
            ⟨_, _, _, _, by rw [eE], hb', fun _ => ⟨s.wq, z, rfl, hM2, rfl, hz8, by omega, Or.inl (by rw [hm, ← hx]; exact ⟨hsh, rfl, hz8.symm⟩)⟩⟩
          clear h hsp hok eE c1 c2 hW hb hbW rW hat hv hx hmk hM hM2 hS hsh q2 q3 hz8
          have hz2 : (xh == 0) = false := by simpa using hz
          go_enter Tryz.func20, Tryz.ntmps20
          go_upto_region 6 with (fail)
          rw [← HW.out.1, ← HW.out.2]
          go_wp2_with (go_at_call 15; refine (shared_is _ _).mono ?_; rintro e w1 ⟨rfl, rfl⟩; rw [hsd])
          go_ret3
          exact HE.out _ HBW.out
theorem RfAt.here (h : RfAt B w T F) {j : Nat} (hj : j < F.L.length) : ∃ s, T.LS[j]? = some s ∧ SpAt B w s (sp F j) := h.space hj
/-- The word at an address. -/
theorem RfAt.word (h : RfAt B w T F) (hF : FlOk F) {j : Nat} (hj : j < F.L.length) (hs : T.LS[j]? = some s) {a : Int} {q : Nat × Nat} {n : Nat} (hc : CellAt T s (sp F j) a q n) : w.cell? ⟨q.1, n, none⟩ = some (.int .u64 (celV F (sp F j) a)) ∧ w.frozen? ⟨q.1, n, none⟩ = false := by
  obtain ⟨s', hs', hsp⟩ := h.space hj
  rw [hs] at hs'
  injection hs' with hs'
  subst hs'
  obtain ⟨hn, hc⟩ := hc
  rcases hc with ⟨c, rfl, e⟩ | ⟨c, hq, e⟩
  · have := hsp.wds.at_ hn
    rw [e] at this
    unfold celV
    rw [if_neg c]; exact this
  · have hob := (hF.sp (j : Int)).obj (a / 64) c
    obtain ⟨Av, cv, hvo⟩ := h.os.form
    obtain ⟨o, ho⟩ : ∃ o : Nat, ((sp F j).P (a / 64)).o = o := ⟨_, (Int.toNat_of_nonneg hob.1).symm⟩
    obtain ⟨g, q', -, hq', -, hW⟩ := (h.obj hvo).2 o (by omega)
    rw [ho, Int.toNat_natCast, hq'] at hq
    injection hq with hq
    subst hq
    have := hW.at_ hn
    unfold celV
    rw [if_pos c, ho, Int.toNat_natCast, ← e]; exact this
set_option maxRecDepth 100000 in
set_option maxHeartbeats 2000000 in
theorem rword_is (h : RfAt B w T F) (hF : FlOk F) (i a : Int) : Calls Tryz.prog 17 #[.pointer (some ⟨T.xa, 0, none⟩), .int .i64 i, .int .i64 a] w fun e w' => e = .returned (.tuple #[.int .u64 (if isS F i = true ∧ celE 10 4 (sp F i) a = 0 then celV F (sp F i) a else 0), .int .i64 (if isS F i = true then celE 10 4 (sp F i) a else 11)]) ∧ Below w.heap.size w w' := by
  have hi := ris_is h i
  by_cases c : isS F i = true
  · rw [c] at hi
    rw [if_pos c]
    have hc0 := c
    unfold isS at hc0
    simp only [Bool.and_eq_true, decide_eq_true_eq] at hc0
    obtain ⟨⟨k0, k1⟩, -⟩ := hc0
    obtain ⟨j, rfl⟩ : ∃ j : Nat, i = j := ⟨i.toNat, by omega⟩
    have hj : j < F.L.length := by omega
    obtain ⟨A, cc, hv⟩ := h.ls.form
    have c0 := h.c0
    obtain ⟨hn, hp⟩ := h.ptr hv
    obtain ⟨g, s, rfl, hs, c1⟩ := hp j hj
    rw [hv, hn] at c0
    have hcell := rcell_is h hF hj hs a
    have HWD : Hid (∀ w', Below w.heap.size w w' → ∀ q n, CellAt T s (sp F j) a q n → w'.cell? ⟨q.1, n, none⟩ = some (.int .u64 (celV F (sp F j) a))) := fun w' hb q n hc => ((h.call hb).word hF hj hs hc).1
    generalize celV F (sp F (j : Int)) a = V at *
    obtain ⟨E, hE⟩ : ∃ E, E = celE 10 4 (sp F (j : Int)) a := ⟨_, rfl⟩
    unfold CellF at hcell
    rw [← hE] at hcell ⊢
    have j0 : (0 : Int) ≤ j := by omega
    by_cases e0 : E = 0
    · subst e0
      rw [if_pos ⟨c, rfl⟩]
      generalize F.L.length = nn at *
      obtain ⟨M2, hM2⟩ : ∃ M : Nat, M = 32768 := ⟨_, rfl⟩
      have HM2 := Lib.hid hM2
      clear h hv hp hs hj hn k0 hE hM2
      go_enter Tryz.func17, Tryz.ntmps17
      go_wp2_with (first | (go_at_call 19; (with_reducible refine hi.mono ?_); rintro e w1 ⟨rfl, rfl⟩) | (go_at_call 20; (with_reducible refine hcell.mono ?_); rintro e w1 ⟨Aq, mq, cq, iq, rfl, hb1, hq⟩; obtain ⟨q, n, rfl, rfl, rfl, rfl, hca⟩ := hq trivial; have hw1 := HWD.out w1 hb1 q n hca; have hnl : (n : Int) < (M2 : Int) := (by have := hca.1; have := HM2.out; omega); have n0 : (0 : Int) ≤ n := (by omega); rw [← HM2.out]; clear hca))
      go_ret2
      exact ⟨rfl, hb1⟩
    · rw [if_neg (fun k => e0 k.2)]
      have e0' : (E != 0) = true := by simpa using e0
      generalize F.L.length = nn at *
      clear h hv hp hs hj hn k0 hE
      go_enter Tryz.func17, Tryz.ntmps17
      go_wp2_with (first | (go_at_call 19; (with_reducible refine hi.mono ?_); rintro e w1 ⟨rfl, rfl⟩) | (go_at_call 20; (with_reducible refine hcell.mono ?_); rintro e w1 ⟨Aq, mq, cq, iq, rfl, hb1, hq⟩))
      go_ret2
      exact ⟨rfl, hb1⟩
  · have c' : isS F i = false := by simpa using c
    rw [c'] at hi
    rw [if_neg (fun k => c k.1), if_neg c]
    clear h c c'
    go_enter Tryz.func17, Tryz.ntmps17
    go_wp2_with (go_at_call 19; (with_reducible refine hi.mono ?_); rintro e w1 ⟨rfl, rfl⟩)
    go_ret2
    exact ⟨rfl, Below.refl _ _⟩
set_option maxRecDepth 100000 in
theorem rareas_is (h : RfAt B w T F) (i : Int) : Calls Tryz.prog 27 #[.pointer (some ⟨T.xa, 0, none⟩), .int .i64 i] w (ToldA (if isS F i = true then allA (sp F i).P else []) w) := by
  have hi := ris_is h i
  by_cases c : isS F i = true
  · rw [c] at hi
    rw [if_pos c]
    have hc0 := c
    unfold isS at hc0
    simp only [Bool.and_eq_true, decide_eq_true_eq] at hc0
    obtain ⟨⟨k0, k1⟩, -⟩ := hc0
    obtain ⟨j, rfl⟩ : ∃ j : Nat, i = j := ⟨i.toNat, by omega⟩
    have hj : j < F.L.length := by omega
    obtain ⟨A, cc, hv⟩ := h.ls.form
    have c0 := h.c0
    obtain ⟨hn, hp⟩ := h.ptr hv
    obtain ⟨g, s, rfl, hs, c1⟩ := hp j hj
    rw [hv, hn] at c0
    obtain ⟨s', hs', hsp⟩ := h.space hj
    rw [hs] at hs'
    injection hs' with hs'
    subst hs'
    have d0 := hsp.c0
    have hall := xall_is hsp.ars
    have j0 : (0 : Int) ≤ j := by omega
    generalize F.L.length = nn at *
    clear h hv hp hs hj hn k0 hsp c
    go_enter Tryz.func27, Tryz.ntmps27
    go_wp2_with (first | (go_at_call 19; (with_reducible refine hi.mono ?_); rintro e w1 ⟨rfl, rfl⟩) | (go_at_call 49; (with_reducible refine hall.mono ?_); rintro e w1 ⟨A1, c1, rfl, ho, hb⟩))
    go_ret
    exact ⟨A1, c1, rfl, ho, hb⟩
  · have c' : isS F i = false := by simpa using c
    rw [c'] at hi
    rw [if_neg c]
    clear h c c'
    go_enter Tryz.func27, Tryz.ntmps27
    go_wp2_with (go_at_call 19; (with_reducible refine hi.mono ?_); rintro e w1 ⟨rfl, rfl⟩)
    go_ret
    exact ⟨none, 0, rfl, Enc.Own.nil _ _, Below.refl _ _⟩
end
end Go.Proofs.YtnppnoabhpkmkaaGreat
