/- The program's spaces: a space like another one; OFork. -/
import Derived.Test.YtnppnoabhpkmkaaGreatMg22
import Derived.Deep.CutRange
import Derived.Deep.CutBlock
namespace Go.Proofs.YtnppnoabhpkmkaaGreat
open Go.RowKit
theorem below_al {a w : World} {o : Obj} (h : Below a.heap.size a w) : Below a.heap.size a (w.alloc o) := h.alloc h.size o
section
variable {w w' wb w1 : World} {B bx b : Nat} {T : PfT} {F F' : Fl} {s s' : PsB} {S S' : Sp} {j : Nat} {LO : List Nat} {P : Int → Pg}
theorem at_map {PP : Program} {Q : MapTy PP} {n : Nat} {M : Int → Option Value} (h : Q.At w b n M) : ∃ es clock, w.heap[b]? = some (.map es clock) ∧ ∀ (w' : World) (b' : Nat), w'.heap[b']? = some (.map es clock) → Q.At w' b' n M := by
  obtain ⟨D, ⟨es, clock, hb, r⟩, h2⟩ := h
  exact ⟨es, clock, hb, fun w' b' hb' => ⟨D, ⟨es, clock, hb', r⟩, h2⟩⟩
theorem cloneM_is {W : Int → Int} (h : MemAt w b W) : Calls Tryz.prog 104 #[.map (some b)] w fun e w' => ∃ m, e = .returned (.map (some m)) ∧ w.heap.size ≤ m ∧ MemAt w' m W ∧ Below w.heap.size w w' := by
  obtain ⟨M, h1, h2⟩ := h
  obtain ⟨es, clock, hb, hk⟩ := at_map h1
  have := AnyW.maps_Clone Tryz.cloneM b es clock w hb
  change Calls Tryz.prog 104 _ _ _ at this
  refine this.mono ?_
  rintro e w' ⟨rfl, rfl⟩
  exact ⟨_, rfl, Nat.le_refl _, ⟨M, hk _ _ (heap_alloc_new w _), h2⟩, below_new _ _⟩
theorem cloneN_is (h : ObjAt w b P LO) : Calls Tryz.prog 105 #[.map (some b)] w fun e w' => ∃ m, e = .returned (.map (some m)) ∧ w.heap.size ≤ m ∧ ObjAt w' m P LO ∧ Below w.heap.size w w' := by
  obtain ⟨M, h1, h2⟩ := h
  obtain ⟨es, clock, hb, hk⟩ := at_map h1
  have := AnyW.maps_Clone Tryz.cloneN b es clock w hb
  change Calls Tryz.prog 105 _ _ _ at this
  refine this.mono ?_
  rintro e w' ⟨rfl, rfl⟩
  exact ⟨_, rfl, Nat.le_refl _, ⟨M, hk _ _ (heap_alloc_new w _), h2⟩, below_new _ _⟩
/-- A new space's blocks. -/
def TwAt (w : World) (S : Sp) (LO : List Nat) (v : Value) (w' : World) : Prop := ∃ b t, v = .pointer (some ⟨b, 0, none⟩) ∧ Lrow w' b 64 [.pointer (some ⟨t.sb, 0, none⟩)] ∧ PsAt w.heap.size w' t ⟨cpP S.P, S.W, false⟩ LO ∧ t.mb ≠ t.ob ∧ Below w.heap.size w w'
/-- All parts of it. -/
def Pts (w : World) (S : Sp) (LO : List Nat) (xb m o : Nat) (w3 : World) : Prop := (∃ A c l, AtX w.heap.size w3 xb A c l (cpP S.P)) ∧ MemAt w3 m S.W ∧ ObjAt w3 o S.P LO ∧ w.heap.size ≤ m ∧ m < o ∧ Below w.heap.size w w3
theorem tw_fin {w3 W' : World} {xb m o blk sbk : Nat} (h : Pts w S LO xb m o w3) (hsz : w3.heap.size ≤ W'.heap.size) (hk : ∀ k, k < w3.heap.size → k ≠ blk → W'.heap[k]? = w3.heap[k]?) (hr : Lrow w3 blk 64 [.pointer none] ∨ w3.heap.size ≤ blk)
    (hs : Lrow W' sbk 90 [.pointer (some ⟨xb, 0, none⟩), .map (some m), .map (some o)]) (hb : Lrow W' blk 64 [.pointer (some ⟨sbk, 0, none⟩)]) (h1 : w.heap.size ≤ sbk) (h2 : w.heap.size ≤ blk) (hf : W'.os = w3.os ∧ W'.tape = w3.tape ∧ W'.output = w3.output) : TwAt w S LO (.pointer (some ⟨blk, 0, none⟩)) W' := by
  obtain ⟨⟨A, c, l, hx⟩, hm, ho, q1, q2, q3⟩ := h
  have nr : ∀ {g : Nat} {t : TypeId} {vs : List Value}, Lrow w3 g t vs → t ≠ 64 → g ≠ blk := fun {g t vs} r ht => by
    rcases hr with hr | hr
    · exact r.apart hr ht
    · have := r.lt; omega
  have nm : m ≠ blk := by
    rcases hr with hr | hr
    · exact fun e => hm.apart hr e.symm
    · have := hm.lt; omega
  have no : o ≠ blk := by
    rcases hr with hr | hr
    · exact fun e => ho.apart hr e.symm
    · have := ho.lt; omega
  refine ⟨blk, ⟨sbk, xb, m, o, A, c, l⟩, rfl, hb, ⟨hs, hx.keep hsz (hk _ hx.top.lt (nr hx.top (by decide))) (fun k vs r => hk k r.lt (nr r (by decide))), hm.heap (hk _ hm.lt nm), (ho.heap (hk _ ho.lt no)).pages fun i hi => ?_, ⟨h1, q1, by show w.heap.size ≤ o; omega⟩⟩, by show m ≠ o; omega, ?_⟩
  · change shr (cpP S.P i).h at hi
    show ∃ j, shr (S.P j).h ∧ (S.P j).o = (cpP S.P i).o
    rcases cpP_or S.P i with e | e
    · rw [e] at hi ⊢; exact ⟨i, hi, rfl⟩
    · rw [e] at hi; exact absurd hi not_shr0
  · exact ⟨hf.1.trans q3.os, hf.2.1.trans q3.tape, hf.2.2.trans q3.output, Nat.le_trans q3.size hsz, fun k hk' => (hk k (by have := q3.size; omega) (by omega)).trans (q3.block k hk')⟩
theorem tw_c {w3 : World} {xb m o : Nat} (h : Pts w S LO xb m o w3) : TwAt w S LO (.pointer (some ⟨w3.heap.size + 1, 0, none⟩)) ((w3.alloc (.cells #[.pointer (some ⟨xb, 0, none⟩), .map (some m), .map (some o)] 90)).alloc (.cells #[.pointer (some ⟨w3.heap.size, 0, none⟩)] 64)) := by
  have hsz := h.2.2.2.2.2.size
  have b1 := below_new w3 (.cells #[.pointer (some ⟨xb, 0, none⟩), .map (some m), .map (some o)] 90)
  have r1 := Lrow.new w3 90 [.pointer (some ⟨xb, 0, none⟩), .map (some m), .map (some o)]
  obtain ⟨W1, hW1⟩ : ∃ W1, W1 = w3.alloc (.cells #[.pointer (some ⟨xb, 0, none⟩), .map (some m), .map (some o)] 90) := ⟨_, rfl⟩
  have z1 : W1.heap.size = w3.heap.size + 1 := by rw [hW1, World.size_alloc]
  change Lrow (w3.alloc (.cells #[.pointer (some ⟨xb, 0, none⟩), .map (some m), .map (some o)] 90)) _ _ _ at r1
  rw [← hW1] at b1 r1 ⊢
  have b2 := below_new W1 (.cells #[.pointer (some ⟨w3.heap.size, 0, none⟩)] 64)
  have r2 := Lrow.new W1 64 [.pointer (some ⟨w3.heap.size, 0, none⟩)]
  rw [z1] at r2
  have b3 : Below w3.heap.size w3 _ := b1.trans (b2.mono b1.size)
  exact tw_fin h b3.size (fun k hk _ => b3.block k hk) (Or.inr (Nat.le_succ _)) (r1.call b2) r2 hsz (Nat.le_succ_of_le hsz) ⟨b3.os, b3.tape, b3.output⟩
theorem tw_b {w3 : World} {xb m o : Nat} (h : Pts w S LO xb m o w3) : TwAt w S LO (.pointer (some ⟨w3.heap.size, 0, none⟩)) ((w3.alloc (.cells #[.pointer (some ⟨w3.heap.size + 1, 0, none⟩)] 64)).alloc (.cells #[.pointer (some ⟨xb, 0, none⟩), .map (some m), .map (some o)] 90)) := by
  have hsz := h.2.2.2.2.2.size
  have b1 := below_new w3 (.cells #[.pointer (some ⟨w3.heap.size + 1, 0, none⟩)] 64)
  have r1 := Lrow.new w3 64 [.pointer (some ⟨w3.heap.size + 1, 0, none⟩)]
  obtain ⟨W1, hW1⟩ : ∃ W1, W1 = w3.alloc (.cells #[.pointer (some ⟨w3.heap.size + 1, 0, none⟩)] 64) := ⟨_, rfl⟩
  have z1 : W1.heap.size = w3.heap.size + 1 := by rw [hW1, World.size_alloc]
  change Lrow (w3.alloc (.cells #[.pointer (some ⟨w3.heap.size + 1, 0, none⟩)] 64)) _ _ _ at r1
  rw [← hW1] at b1 r1 ⊢
  have b2 := below_new W1 (.cells #[.pointer (some ⟨xb, 0, none⟩), .map (some m), .map (some o)] 90)
  have r2 := Lrow.new W1 90 [.pointer (some ⟨xb, 0, none⟩), .map (some m), .map (some o)]
  rw [z1] at r2
  have b3 : Below w3.heap.size w3 _ := b1.trans (b2.mono b1.size)
  exact tw_fin h b3.size (fun k hk _ => b3.block k hk) (Or.inr (Nat.le_refl _)) r2 (r1.call b2) (Nat.le_succ_of_le hsz) hsz ⟨b3.os, b3.tape, b3.output⟩
theorem tw_a {w3 : World} {xb m o blk : Nat} (h : Pts w S LO xb m o w3) (hr : Lrow w3 blk 64 [.pointer none]) (hb : w.heap.size ≤ blk) : TwAt w S LO (.pointer (some ⟨blk, 0, none⟩)) ((w3.setCell ⟨blk, 0, none⟩ (.pointer (some ⟨w3.heap.size, 0, none⟩))).alloc (.cells #[.pointer (some ⟨xb, 0, none⟩), .map (some m), .map (some o)] 90)) := by
  have hsz := h.2.2.2.2.2.size
  obtain ⟨W1, hW1⟩ : ∃ W1, W1 = w3.setCell ⟨blk, 0, none⟩ (.pointer (some ⟨w3.heap.size, 0, none⟩)) := ⟨_, rfl⟩
  have z1 : W1.heap.size = w3.heap.size := by rw [hW1]; simp [World.setCell]
  have g1 : w3.grownBy W1 (some blk) := by rw [hW1]; exact grown_set w3 blk 0 _
  have r1 : Lrow W1 blk 64 [.pointer (some ⟨w3.heap.size, 0, none⟩)] := by rw [hW1]; exact hr.set_ 0 _
  rw [← hW1]
  have b2 := below_new W1 (.cells #[.pointer (some ⟨xb, 0, none⟩), .map (some m), .map (some o)] 90)
  have r2 := Lrow.new W1 90 [.pointer (some ⟨xb, 0, none⟩), .map (some m), .map (some o)]
  rw [z1] at r2 b2
  exact tw_fin h (by have := b2.size; omega) (fun k hk hne => (b2.block k hk).trans (g1.block k hk (by intro e; injection e with e; exact hne e))) (Or.inl hr) r2 ((b2.block _ hr.lt).trans r1) hsz hb ⟨b2.os.trans g1.os, b2.tape.trans g1.tape, b2.output.trans g1.output⟩
set_option maxRecDepth 100000 in
theorem tw1_is {t : PsB} {Q : Int → Pg} {A : Option Addr} {c : Nat} {l : List Ar} (hr : Lrow w b 64 [.pointer (some ⟨t.sb, 0, none⟩)]) (ht : Lrow w t.sb 90 [.pointer (some ⟨t.ab, 0, none⟩), .map (some t.mb), .map (some t.ob)]) (hx : AtX B w t.ab A c l Q) (x v0 v1 v2 v3 v4 v5 v6 v7 : Int) :
    Calls Tryz.prog 106 #[.int .i64 x, .agg #[.int .u64 v0, .int .u64 v1, .int .u64 v2, .int .u64 v3, .int .u64 v4, .int .u64 v5, .int .u64 v6, .int .u64 v7], .pointer (some ⟨b, 0, none⟩)] w fun e w' => e = .returned (.bool (decide ((Q x).h = 0))) ∧ w.grownBy w' none := by
  obtain ⟨W1, hW1⟩ : ∃ W1, W1 = w.alloc (.cells #[.int .u64 v0, .int .u64 v1, .int .u64 v2, .int .u64 v3, .int .u64 v4, .int .u64 v5, .int .u64 v6, .int .u64 v7] 96) := ⟨_, rfl⟩
  have hb1 : Below w.heap.size w W1 := by rw [hW1]; exact below_new _ _
  have c1 : W1.cell? ⟨b, 0, none⟩ = some (.pointer (some ⟨t.sb, 0, none⟩)) := (hr.call hb1).cell 0
  have c2 : W1.cell? ⟨t.sb, 0, none⟩ = some (.pointer (some ⟨t.ab, 0, none⟩)) := (ht.call hb1).cell 0
  have hfd := find_pr (hx.call hb1) x
  have HX := Lib.hid hx.wh
  have HB := Lib.hid hb1
  have HW := Lib.hid hW1
  obtain ⟨d, hd⟩ : ∃ d, d = decide ((Q x).h = 0) := ⟨_, rfl⟩
  rw [← hd]
  have HD := Lib.hid hd
  clear hr ht hx hb1 hW1 hd
  go_enter Tryz.func106, Tryz.ntmps106
  go_upto_region 1 with (fail)
  rw [← HW.out]
  go_wp2_with fail
  refine hfd.mono ?_
  rintro e w2 ⟨f, t', h, p, o, z, bb, rfl, hb2, h1, h2⟩
  have hbb : bb = !d := by
    rw [HD.out]
    cases bb with
    | true =>
      obtain ⟨e1, e2, e3⟩ := h1 rfl
      rw [HX.out.found e1 e2 e3]
      have := (mem_ok HX.out.jd.rs e1).2.1
      rw [decide_eq_false (show ¬ ((⟨f, t', h, p, o, z⟩ : Ar).pg x).h = 0 from this)]; rfl
    | false =>
      have e2 := (h2 rfl).2
      rw [HX.out.pg] at e2
      rw [e2]; rfl
  subst hbb
  have HB2 := Lib.hid (HB.out.trans (hb2.mono HB.out.size))
  clear hfd h1 h2 c1 c2 hb2
  go_wp2_with fail
  go_ret
  exact ⟨by cases d <;> rfl, grown_none (HB2.out.trans ((below_new _ _).mono HB2.out.size))⟩
set_option maxRecDepth 100000 in
set_option maxHeartbeats 4000000 in
theorem twin_f (hp : PsAt B w s S LO) :
    Calls Tryz.prog 75 #[.pointer (some ⟨s.sb, 0, none⟩)] w fun e w' => ∃ t : PsB, e = .returned (.pointer (some ⟨t.sb, 0, none⟩)) ∧ PsAt w.heap.size w' t (cpS S) LO ∧ t.mb ≠ t.ob ∧ Below w.heap.size w w' := by
  have HCELL : Hid (∀ V : World, Below w.heap.size w V → V.cell? ⟨s.sb, 0, none⟩ = some (.pointer (some ⟨s.ab, 0, none⟩)) ∧ V.cell? ⟨s.sb, 1, none⟩ = some (.map (some s.mb)) ∧ V.cell? ⟨s.sb, 2, none⟩ = some (.map (some s.ob))) := fun V hb => ⟨(hp.call hb).top.cell 0, (hp.call hb).top.cell 1, (hp.call hb).top.cell 2⟩
  have HC1 := Lib.hid (fun V (hb : Below w.heap.size w V) => copy_pr (hp.call hb).ars)
  have HC2 := Lib.hid (fun V (hb : Below w.heap.size w V) => cloneM_is (hp.call hb).own)
  have HC3 := Lib.hid (fun V (hb : Below w.heap.size w V) => cloneN_is (hp.call hb).obj)
  have hbd : Below w.heap.size w w.drew := below_dN (Below.refl _ _) 1
  have hba : Below w.heap.size w (w.alloc (.cells #[.pointer none] 64)).drew := below_dN (below_al (Below.refl _ _)) 1
  clear hp
  go_enter Tryz.func75, Tryz.ntmps75
  go_upto_region 1 with (fail)
  go_cut [3] from 4 to 21 (fun s3 wx => TwAt w S LO s3 wx)
  case first =>
    go_region_held3 (fun V => V.cell? ⟨s.sb, 0, none⟩ = some (.pointer (some ⟨s.ab, 0, none⟩)) ∧ V.cell? ⟨s.sb, 1, none⟩ = some (.map (some s.mb)) ∧ V.cell? ⟨s.sb, 2, none⟩ = some (.map (some s.ob)))
      (first | exact HCELL.out _ (by assumption) | exact HCELL.out _ (below_al (by assumption)) | exact HCELL.out _ (below_al (below_al (by assumption))) | exact HCELL.out _ (below_al (Below.setCell hb3' (Nat.le_refl _) _)) | exact HCELL.out _ (below_al (Below.setCell hb3' hb1'.size _)) | exact HCELL.out _ (below_al (Below.setCell hb3' hb2'.size _)) | fail)
      (first
        | (go_at_call 103; (with_reducible refine (HC1.out _ (by first | assumption | exact below_al (by assumption))).mono ?_); rintro e w1 ⟨xb, A1, c1, l1, rfl, hx1, hb1⟩; have hb1' : Below w.heap.size w w1 := Below.trans (by first | exact hbd | exact hba) (hb1.mono (by first | exact hbd.size | exact hba.size)); have hx1' : AtX w.heap.size w1 xb A1 c1 l1 (cpP S.P) := hx1.base (by first | exact hbd.size | exact hba.size); first | (have rv0 : Lrow w1 w.heap.size 64 [.pointer none] := Lrow.call (w := (w.alloc (.cells #[.pointer none] 64)).drew) ((Lrow.new w 64 [.pointer none]).drewN 1) hb1) | skip)
        | (go_at_call 104; (with_reducible refine (HC2.out _ (by first | assumption | exact below_al (by assumption))).mono ?_); rintro e w2 ⟨m2, rfl, hl2, hm2, hb2⟩; have b12 : Below w1.heap.size w1 w2 := (by first | exact hb2 | exact (below_new _ _).trans (hb2.mono (below_new _ _).size)); have hb2' : Below w.heap.size w w2 := hb1'.trans (b12.mono hb1'.size); have hx2 := hx1'.call b12; have hl2' : w.heap.size ≤ m2 := Nat.le_trans hb1'.size (by first | exact hl2 | exact Nat.le_trans (below_new w1 _).size hl2); first | (have rv1 : Lrow w2 w.heap.size 64 [.pointer none] := rv0.call hb2) | (have rv1 : Lrow w2 w1.heap.size 64 [.pointer none] := (Lrow.new w1 64 [.pointer none]).call hb2) | skip)
        | (go_at_call 105; (with_reducible refine (HC3.out _ (by first | assumption | exact below_al (by assumption))).mono ?_); rintro e w3 ⟨m3, rfl, hl3, hm3, hb3⟩; have b23 : Below w2.heap.size w2 w3 := (by first | exact hb3 | exact (below_new _ _).trans (hb3.mono (below_new _ _).size)); have hb3' : Below w.heap.size w w3 := hb2'.trans (b23.mono hb2'.size); have HPT : Hid (Pts w S LO xb m2 m3 w3) := ⟨⟨A1, c1, l1, hx2.call b23⟩, hm2.call b23, hm3, hl2', Nat.lt_of_lt_of_le hm2.lt (by first | exact hl3 | exact Nat.le_trans (below_new w2 _).size hl3), hb3'⟩; first | (have rv2 : Lrow w3 w.heap.size 64 [.pointer none] := rv1.call hb3; have cv := rv2.cell 0; have fv := rv2.frozen 0; have lv := rv2.lt; have nv : ¬ w.heap.size = w3.heap.size := (by omega)) | (have rv2 : Lrow w3 w1.heap.size 64 [.pointer none] := rv1.call hb3; have cv := rv2.cell 0; have fv := rv2.frozen 0; have lv := rv2.lt; have nv : ¬ w1.heap.size = w3.heap.size := (by omega)) | (have rv2 : Lrow w3 w2.heap.size 64 [.pointer none] := (Lrow.new w2 64 [.pointer none]).call hb3; have cv := rv2.cell 0; have fv := rv2.frozen 0; have lv := rv2.lt; have nv : ¬ w2.heap.size = w3.heap.size := (by omega)) | skip)
        | fail)
    all_goals
      go_wp2_with fail
      go_meet
      first | exact tw_c HPT.out | exact tw_b HPT.out | exact tw_a HPT.out rv2 (Nat.le_refl _) | exact tw_a HPT.out rv2 hb1'.size | exact tw_a HPT.out rv2 hb2'.size
  case rest =>
    obtain ⟨b, t, rfl, hr, ht, hmo, hb⟩ := hcut
    have c0 : wc.cell? ⟨b, 0, none⟩ = some (.pointer (some ⟨t.sb, 0, none⟩)) := hr.cell 0
    have c1 : wc.cell? ⟨t.sb, 1, none⟩ = some (.map (some t.mb)) := ht.top.cell 1
    have hmf : ∀ (fn : Fn) (first cap : Array Value) (w : World), (Instr.makeFunc fn first cap).run Tryz.prog w = .ok (.func fn first cap) w := fun _ _ _ _ => rfl
    have hdl := deleteM (g := 106) (cb := #[.pointer (some ⟨b, 0, none⟩)]) ht.own (fun x => decide ((cpP S.P x).h = 0)) (fun args w => by kernel_rfl) (fun W' x hg _ _ => by
      have e1 := hr.grown hg (by intro e; injection e with e; exact ht.own.apart hr e)
      have e2 := ht.top.grown hg (by intro e; injection e with e; exact ht.own.apart ht.top e)
      have e3 := ht.ars.keep hg.size (hg.block _ ht.ars.top.lt (by intro e; injection e with e; exact ht.own.apart ht.ars.top e)) (fun k vs r => hg.block k r.lt (by intro e; injection e with e; exact ht.own.apart r e))
      exact tw1_is e1 e2 e3 x _ _ _ _ _ _ _ _)
    have HR := Lib.hid hr
    have HT := Lib.hid ht
    have HMO := Lib.hid hmo
    have HB := Lib.hid hb
    clear hr ht hmo hb hbd hba
    go_wp2_with fail
    refine hdl.mono ?_
    rintro e w4 ⟨rfl, m4, g4⟩
    have r4 := HR.out.grown g4 (by intro e; injection e with e; exact HT.out.own.apart HR.out e)
    have c4 : w4.cell? ⟨b, 0, none⟩ = some (.pointer (some ⟨t.sb, 0, none⟩)) := r4.cell 0
    have HG := Lib.hid (And.intro m4 g4)
    clear hdl m4 g4 r4 c0 c1
    go_wp2_with fail
    go_ret
    have ht := HT.out
    have hg := HG.out.2
    have kk : ∀ k, k < wc.heap.size → k ≠ t.mb → w4.heap[k]? = wc.heap[k]? := fun k hk hne => hg.block k hk (by intro e; injection e with e; exact hne e)
    refine ⟨t, rfl, ⟨(kk _ ht.top.lt (ht.own.apart ht.top)).trans ht.top, ht.ars.keep hg.size (kk _ ht.ars.top.lt (ht.own.apart ht.ars.top)) (fun k vs r => kk k r.lt (ht.own.apart r)), HG.out.1.eq fun i i0 i1 => ?_, ht.obj.heap (kk _ ht.obj.lt fun e => HMO.out e.symm), ht.lo⟩, HMO.out, HB.out.grown hg HB.out.size fun k e => by injection e with e; subst e; exact ht.lo.2.1⟩
    show cpW (cpP S.P) S.W i = if _ then _ else _
    unfold cpW
    by_cases c : (cpP S.P (i / 8)).h = 0
    · rw [if_pos ⟨i0, i1, c⟩, if_pos (decide_eq_true c)]
    · rw [if_neg (fun e => c e.2.2), if_neg (by simpa using c)]
end
end Go.Proofs.YtnppnoabhpkmkaaGreat
/- The program's spaces: OFork; which deed does a kind. -/
namespace Go.Proofs.YtnppnoabhpkmkaaGreat
open Go.RowKit
section
variable {w w' wb w1 : World} {B bx b : Nat} {T : PfT} {F F' : Fl} {s s' : PsB} {S S' : Sp} {j : Nat} {LO : List Nat} {P : Int → Pg}
theorem PsAt.base {B' : Nat} (h : PsAt B w s S LO) (hb : B' ≤ B) : PsAt B' w s S LO := ⟨h.top, h.ars.base hb, h.own, h.obj, Nat.le_trans hb h.lo.1, Nat.le_trans hb h.lo.2.1, Nat.le_trans hb h.lo.2.2⟩
set_option maxRecDepth 100000 in
theorem fork_f (h : PfAt B w T F) (hs : T.LS[j]? = some (some s)) (k a n hw p t c v : Int) :
    Calls Tryz.prog 45 #[.pointer (some ⟨T.s, 0, none⟩), .agg #[.int .i64 k, .int .i64 j, .int .i64 a, .int .i64 n, .int .i64 hw, .int .i64 p, .int .i64 t, .int .i64 c, .int .u64 v]] w (AnsV B w T (addF F (cpS (sp F j)))) := by
  obtain ⟨W0, hW0⟩ : ∃ W0, W0 = w.alloc (.cells #[.int .i64 k, .int .i64 j, .int .i64 a, .int .i64 n, .int .i64 hw, .int .i64 p, .int .i64 t, .int .i64 c, .int .u64 v] 25) := ⟨_, rfl⟩
  obtain ⟨bo, hbo⟩ : ∃ bo, bo = w.heap.size := ⟨_, rfl⟩
  have hb0 : Below w.heap.size w W0 := by rw [hW0]; exact below_new _ _
  have hr0 : Lrow W0 bo 25 [.int .i64 k, .int .i64 j, .int .i64 a, .int .i64 n, .int .i64 hw, .int .i64 p, .int .i64 t, .int .i64 c, .int .u64 v] := by rw [hW0, hbo]; exact Lrow.new w _ [.int .i64 k, .int .i64 j, .int .i64 a, .int .i64 n, .int .i64 hw, .int .i64 p, .int .i64 t, .int .i64 c, .int .u64 v]
  have h0 := h.call hb0
  have hsp := space_yes h0 hs
  have htw := twin_f (h0.at_ hs).2
  have o1 : W0.cell? ⟨bo, 1, none⟩ = some (.int .i64 j) := hr0.cell 1
  have HH := Lib.hid h
  have HB := Lib.hid hb0
  have HW := Lib.hid (And.intro hW0 hbo)
  obtain ⟨r, hr⟩ : ∃ r, r = addF F (cpS (sp F j)) := ⟨_, rfl⟩
  rw [← hr]
  have HR := Lib.hid hr
  clear h hb0 hr0 h0 hs hW0 hbo hr
  obtain ⟨r1, r2, r3⟩ := r
  unfold AnsV
  dsimp only
  go_enter Tryz.func45, Tryz.ntmps45
  go_upto_region 1 with (fail)
  rw [← HW.out.1, ← HW.out.2]
  go_wp2_with (go_at_call 24; refine hsp.mono ?_; rintro e w1 ⟨rfl, rfl⟩)
  refine htw.mono ?_
  rintro e w2 ⟨t2, rfl, hp2, hmo, hb2⟩
  have hlw := HH.out.lw
  have hb0s := HB.out.size
  have hadd := add_f HH.out (HB.out.trans (hb2.mono HB.out.size)) (hp2.base (by omega)) (fun k hk => by have := hp2.low k hk; omega) hmo rfl
  unfold AnsV at hadd
  rw [← HR.out] at hadd
  dsimp only at hadd
  clear htw hsp hp2 hmo hb2 o1 hlw hb0s
  go_wp2_with fail
  refine hadd.mono ?_
  rintro e w5 ⟨rfl, hd⟩
  go_wp2_with fail
  go_ret2
  exact ⟨rfl, hd⟩
theorem deed1 (f s : Option Addr) (w : World) : Calls Tryz.prog 25 #[.pointer f, .int .i64 1, .pointer s] w fun e w' => e = .returned (.func (.func 39) #[.pointer f] #[]) ∧ w = w' := by
  have hmf : ∀ (fn : Fn) (first cap : Array Value) (w : World), (Instr.makeFunc fn first cap).run Tryz.prog w = .ok (.func fn first cap) w := fun _ _ _ _ => rfl
  go_enter Tryz.func25, Tryz.ntmps25
  go_wp2
  go_ret
  exact ⟨rfl, rfl⟩
theorem deed2 (f s : Option Addr) (w : World) : Calls Tryz.prog 25 #[.pointer f, .int .i64 2, .pointer s] w fun e w' => e = .returned (.func (.func 40) #[.pointer f] #[]) ∧ w = w' := by
  have hmf : ∀ (fn : Fn) (first cap : Array Value) (w : World), (Instr.makeFunc fn first cap).run Tryz.prog w = .ok (.func fn first cap) w := fun _ _ _ _ => rfl
  go_enter Tryz.func25, Tryz.ntmps25
  go_wp2
  go_ret
  exact ⟨rfl, rfl⟩
theorem deed3 (f s : Option Addr) (w : World) : Calls Tryz.prog 25 #[.pointer f, .int .i64 3, .pointer s] w fun e w' => e = .returned (.func (.func 41) #[.pointer s] #[]) ∧ w = w' := by
  have hmf : ∀ (fn : Fn) (first cap : Array Value) (w : World), (Instr.makeFunc fn first cap).run Tryz.prog w = .ok (.func fn first cap) w := fun _ _ _ _ => rfl
  go_enter Tryz.func25, Tryz.ntmps25
  go_wp2
  go_ret
  exact ⟨rfl, rfl⟩
theorem deed4 (f s : Option Addr) (w : World) : Calls Tryz.prog 25 #[.pointer f, .int .i64 4, .pointer s] w fun e w' => e = .returned (.func (.func 42) #[.pointer s] #[]) ∧ w = w' := by
  have hmf : ∀ (fn : Fn) (first cap : Array Value) (w : World), (Instr.makeFunc fn first cap).run Tryz.prog w = .ok (.func fn first cap) w := fun _ _ _ _ => rfl
  go_enter Tryz.func25, Tryz.ntmps25
  go_wp2
  go_ret
  exact ⟨rfl, rfl⟩
theorem deed5 (f s : Option Addr) (w : World) : Calls Tryz.prog 25 #[.pointer f, .int .i64 5, .pointer s] w fun e w' => e = .returned (.func (.func 43) #[.pointer s] #[]) ∧ w = w' := by
  have hmf : ∀ (fn : Fn) (first cap : Array Value) (w : World), (Instr.makeFunc fn first cap).run Tryz.prog w = .ok (.func fn first cap) w := fun _ _ _ _ => rfl
  go_enter Tryz.func25, Tryz.ntmps25
  go_wp2
  go_ret
  exact ⟨rfl, rfl⟩
theorem deed6 (f s : Option Addr) (w : World) : Calls Tryz.prog 25 #[.pointer f, .int .i64 6, .pointer s] w fun e w' => e = .returned (.func (.func 44) #[.pointer s] #[]) ∧ w = w' := by
  have hmf : ∀ (fn : Fn) (first cap : Array Value) (w : World), (Instr.makeFunc fn first cap).run Tryz.prog w = .ok (.func fn first cap) w := fun _ _ _ _ => rfl
  go_enter Tryz.func25, Tryz.ntmps25
  go_wp2
  go_ret
  exact ⟨rfl, rfl⟩
theorem deed7 (f s : Option Addr) (w : World) : Calls Tryz.prog 25 #[.pointer f, .int .i64 7, .pointer s] w fun e w' => e = .returned (.func (.func 45) #[.pointer f] #[]) ∧ w = w' := by
  have hmf : ∀ (fn : Fn) (first cap : Array Value) (w : World), (Instr.makeFunc fn first cap).run Tryz.prog w = .ok (.func fn first cap) w := fun _ _ _ _ => rfl
  go_enter Tryz.func25, Tryz.ntmps25
  go_wp2
  go_ret
  exact ⟨rfl, rfl⟩
theorem deed8 (f s : Option Addr) (w : World) : Calls Tryz.prog 25 #[.pointer f, .int .i64 8, .pointer s] w fun e w' => e = .returned (.func (.func 46) #[.pointer f] #[]) ∧ w = w' := by
  have hmf : ∀ (fn : Fn) (first cap : Array Value) (w : World), (Instr.makeFunc fn first cap).run Tryz.prog w = .ok (.func fn first cap) w := fun _ _ _ _ => rfl
  go_enter Tryz.func25, Tryz.ntmps25
  go_wp2
  go_ret
  exact ⟨rfl, rfl⟩
theorem deed9 (f s : Option Addr) (w : World) : Calls Tryz.prog 25 #[.pointer f, .int .i64 9, .pointer s] w fun e w' => e = .returned (.func (.func 47) #[.pointer s] #[]) ∧ w = w' := by
  have hmf : ∀ (fn : Fn) (first cap : Array Value) (w : World), (Instr.makeFunc fn first cap).run Tryz.prog w = .ok (.func fn first cap) w := fun _ _ _ _ => rfl
  go_enter Tryz.func25, Tryz.ntmps25
  go_wp2
  go_ret
  exact ⟨rfl, rfl⟩
theorem deed10 (f s : Option Addr) (w : World) : Calls Tryz.prog 25 #[.pointer f, .int .i64 10, .pointer s] w fun e w' => e = .returned (.func (.func 48) #[.pointer s] #[]) ∧ w = w' := by
  have hmf : ∀ (fn : Fn) (first cap : Array Value) (w : World), (Instr.makeFunc fn first cap).run Tryz.prog w = .ok (.func fn first cap) w := fun _ _ _ _ => rfl
  go_enter Tryz.func25, Tryz.ntmps25
  go_wp2
  go_ret
  exact ⟨rfl, rfl⟩
theorem deed_no {k : Int} (hk : k < 1 ∨ 10 < k) (f s : Option Addr) (w : World) : Calls Tryz.prog 25 #[.pointer f, .int .i64 k, .pointer s] w fun e w' => e = .returned Value.nilFunc ∧ w = w' := by
  have k1 : (k == 1) = false := by simpa using (show ¬ k = 1 by omega)
  have k2 : (k == 2) = false := by simpa using (show ¬ k = 2 by omega)
  have k3 : (k == 3) = false := by simpa using (show ¬ k = 3 by omega)
  have k4 : (k == 4) = false := by simpa using (show ¬ k = 4 by omega)
  have k5 : (k == 5) = false := by simpa using (show ¬ k = 5 by omega)
  have k6 : (k == 6) = false := by simpa using (show ¬ k = 6 by omega)
  have k7 : (k == 7) = false := by simpa using (show ¬ k = 7 by omega)
  have k8 : (k == 8) = false := by simpa using (show ¬ k = 8 by omega)
  have k9 : (k == 9) = false := by simpa using (show ¬ k = 9 by omega)
  have k10 : (k == 10) = false := by simpa using (show ¬ k = 10 by omega)
  clear hk
  go_enter Tryz.func25, Tryz.ntmps25
  go_wp2
  go_ret
  exact ⟨rfl, rfl⟩
/-- Rows of other types are none of the spaces'. -/
def FlatU : List TypeId := [72, 64, 90, 106, 93]
theorem PfAt.other (h : PfAt B w T F) {g : Nat} {t : TypeId} {vs : List Value} (r : Lrow w g t vs) (ht : t ∉ FlatU) : ¬ MineP T g := by
  unfold FlatU at ht
  simp only [List.mem_cons, List.not_mem_nil, or_false, not_or] at ht
  obtain ⟨h1, h2, h3, h4, -⟩ := ht
  rintro (rfl | e | ⟨i, a, hi, hk⟩ | hk)
  · exact r.apart h.top h1 rfl
  · obtain ⟨us, r2, _⟩ := h.ls.block e
    exact r.apart r2 h2 rfl
  · have hp := (h.sps i a hi).2
    rcases hk with rfl | rfl | rfl | rfl
    · exact r.apart hp.top h3 rfl
    · exact r.apart hp.ars.top h4 rfl
    · exact hp.own.apart r rfl
    · exact hp.obj.apart r rfl
  · obtain ⟨i, hi, rfl⟩ := List.getElem_of_mem hk
    exact (h.obs i hi).1.apart r rfl
theorem DidV.cell (d : DidV B w T F w') {g i : Nat} {t : TypeId} {vs : List Value} (r : Lrow w' g t vs) (ht : t ∉ FlatU) (hg : w.heap.size ≤ g) (u : Value) : DidV B w T F (w'.setCell ⟨g, i, none⟩ u) := by
  obtain ⟨T', d0, d1, d2, d3⟩ := d
  have hn := d1.other r ht
  have hpg : t ≠ 93 := fun e => ht (by rw [e]; unfold FlatU; simp)
  refine ⟨T', d0, d1.keep (by simp [World.setCell]) (fun k hk => Below.heap_setCell w' _ u k (fun e => hn (by have e : k = g := e; subst e; exact hk))) (fun k vs q => Below.heap_setCell w' _ u k (fun e => by have e : k = g := e; exact r.apart q hpg e.symm)), ⟨d2.os, d2.tape, d2.output, by simpa [World.setCell] using d2.size, fun k hk hx => (Below.heap_setCell w' ⟨g, i, none⟩ u k (by show k ≠ g; omega)).trans (d2.keep k hk hx)⟩, d3⟩
end
end Go.Proofs.YtnppnoabhpkmkaaGreat
