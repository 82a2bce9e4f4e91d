/- The contracts of package table on a place, on a leaf's entry, on the laying of an entry. -/
import Derived.Test.YtnlimecbbockoaaMg22
namespace Go.Proofs.Ytnlimecbbockoaa
open Go.RowKit
/-- What is wrong with a leaf's place. -/
def plE (R : List Int) (r p o : Int) : Int := if r ∈ R then wrO p o else 3
theorem evB_of {p o : Int} (ho : o = 0 ∨ o = 3 ∨ o = 6) : evB p o = decide (p % szO o = 0) := by
  rcases ho with rfl | rfl | rfl <;> simp [evB, ordB, szO]
section
variable {w : World} {s : Seat} {v : Value} {ws L R : List Int}
theorem Tab.ramTurned {w' : World} {ws' : List Int} (h : Tab w s v ws L R) (h' : RamAt w' s.a s.b 104 4096 ws') (g : w.grownBy w' (some s.b)) : Tab w' s v ws' L R := by
  have e1 : some s.y ≠ some s.b := fun e => by injection e with e; exact h.bag.top.apart h.ram.row (by decide) e
  have e2 : some s.x ≠ some s.b := fun e => by injection e with e; exact h.top.apart h.ram.row (by decide) e
  have e3 : s.m ≠ s.b := fun e => h.set.apart h.ram.row e.symm
  have e4 : v.ownBlock ≠ some s.b := fun e => by
    obtain ⟨-, -, cur, hc⟩ := h.own e
    have hr := h.ram.row
    unfold Row at hr
    rw [hr] at hc
    injection hc with hc
    injection hc with _ hc
    exact absurd hc (by decide)
  refine ⟨h', ⟨h.bag.top.grown g e1, ?_, h.bag.len⟩, h.top.grown g e2, h.set.heap (g.block _ h.set.lt (fun e => e3 (by injection e))), h.yC, Nat.le_trans h.Cw g.size⟩
  cases e : v.ownBlock with
  | none => exact h.bag.row.kept g (Or.inl e)
  | some z => exact h.bag.row.kept g (Or.inr e4)
theorem keepC {v v' : World} {g b i : Nat} {x : Value} (h : v.cell? ⟨g, i, none⟩ = some x) (hg : v.grownBy v' (some b)) (hne : g ≠ b) : v'.cell? ⟨g, i, none⟩ = some x :=
  (World.cell?_of_block (a := ⟨g, i, none⟩) (hg.block g (World.block_lt_of_cell? v _ h) (by intro e; injection e with e; exact hne e))).trans h
theorem keep8 {v v' : World} {x g b : Nat} {y0 x0 x1 x2 x3 x4 x5 x6 : Value} (h : v.cell? ⟨x, 0, none⟩ = some y0 ∧ v.cell? ⟨g, 0, none⟩ = some x0 ∧ v.cell? ⟨g, 1, none⟩ = some x1 ∧ v.cell? ⟨g, 2, none⟩ = some x2 ∧ v.cell? ⟨g, 3, none⟩ = some x3 ∧ v.cell? ⟨g, 4, none⟩ = some x4 ∧ v.cell? ⟨g, 5, none⟩ = some x5 ∧ v.cell? ⟨g, 6, none⟩ = some x6)
    (hg : v.grownBy v' (some b)) (hx : x ≠ b) (hne : g ≠ b) : v'.cell? ⟨x, 0, none⟩ = some y0 ∧ v'.cell? ⟨g, 0, none⟩ = some x0 ∧ v'.cell? ⟨g, 1, none⟩ = some x1 ∧ v'.cell? ⟨g, 2, none⟩ = some x2 ∧ v'.cell? ⟨g, 3, none⟩ = some x3 ∧ v'.cell? ⟨g, 4, none⟩ = some x4 ∧ v'.cell? ⟨g, 5, none⟩ = some x5 ∧ v'.cell? ⟨g, 6, none⟩ = some x6 :=
  ⟨keepC h.1 hg hx, keepC h.2.1 hg hne, keepC h.2.2.1 hg hne, keepC h.2.2.2.1 hg hne, keepC h.2.2.2.2.1 hg hne, keepC h.2.2.2.2.2.1 hg hne, keepC h.2.2.2.2.2.2.1 hg hne, keepC h.2.2.2.2.2.2.2 hg hne⟩
set_option maxHeartbeats 1000000 in
theorem tput_any (h : Tab w s v ws L R) (t i f : Int) (p wr hu k u d : Bool) : Calls Try.prog 30 #[.pointer (some ⟨s.x, 0, none⟩), .int .i64 t, .int .i64 i, .agg #[.int .i64 f, .bool p, .bool wr, .bool hu, .bool k, .bool u, .bool d]] w
    fun e w' => e = .returned (.tuple #[]) ∧ Tab w' s v (ptL ws t i (chkI f p wr hu k u d) (packI f p wr hu k u d)) L R ∧ w.grownBy w' (some s.b) := by
  have b1 := below_new w 28 [.int .i64 f, .bool p, .bool wr, .bool hu, .bool k, .bool u, .bool d]
  have r1 := Row.new w 28 [.int .i64 f, .bool p, .bool wr, .bool hu, .bool k, .bool u, .bool d]
  obtain ⟨g, hg⟩ : ∃ g, g = w.heap.size := ⟨_, rfl⟩
  obtain ⟨w1, hw1⟩ : ∃ w1, w1 = w.alloc (.cells #[.int .i64 f, .bool p, .bool wr, .bool hu, .bool k, .bool u, .bool d] 28) := ⟨_, rfl⟩
  have B1 : Below w.heap.size w w1 := hw1 ▸ b1
  have R1 : Row w1 g 28 [.int .i64 f, .bool p, .bool wr, .bool hu, .bool k, .bool u, .bool d] := by rw [hw1, hg]; exact r1
  have H1 := h.call B1
  have HB := Lib.hid B1
  have HH := Lib.hid h
  have HW := Lib.hid hw1
  have HG := Lib.hid hg
  obtain ⟨c0, c1, c2, c3, c4, c5, c6⟩ := R1.seven.1
  obtain ⟨x0, -, -⟩ := H1.cells
  have hp := put_entry (w := w1.drew) (H1.ram.drewN 1) t i f p wr hu k u d
  have hxb : s.x ≠ s.b := H1.top.apart H1.ram.row (by decide)
  have hgb : g ≠ s.b := R1.apart H1.ram.row (by decide)
  have HT := Lib.hid H1
  clear b1 r1 hw1 hg B1 R1 H1 h
  go_enter Try.func30, Try.ntmps30
  go_upto_region 1 with (fail)
  rw [← HW.out, ← HG.out]
  have hs1 : w1.drew.cell? ⟨s.x, 0, none⟩ = some (.pointer (some ⟨s.a, 0, none⟩)) ∧ w1.drew.cell? ⟨g, 0, none⟩ = some (.int .i64 f) ∧ w1.drew.cell? ⟨g, 1, none⟩ = some (.bool p) ∧ w1.drew.cell? ⟨g, 2, none⟩ = some (.bool wr) ∧ w1.drew.cell? ⟨g, 3, none⟩ = some (.bool hu) ∧ w1.drew.cell? ⟨g, 4, none⟩ = some (.bool k) ∧ w1.drew.cell? ⟨g, 5, none⟩ = some (.bool u) ∧ w1.drew.cell? ⟨g, 6, none⟩ = some (.bool d) := ⟨x0, c0, c1, c2, c3, c4, c5, c6⟩
  go_region_held3 (fun z => z.cell? ⟨s.x, 0, none⟩ = some (.pointer (some ⟨s.a, 0, none⟩)) ∧ z.cell? ⟨g, 0, none⟩ = some (.int .i64 f) ∧ z.cell? ⟨g, 1, none⟩ = some (.bool p) ∧ z.cell? ⟨g, 2, none⟩ = some (.bool wr) ∧ z.cell? ⟨g, 3, none⟩ = some (.bool hu) ∧ z.cell? ⟨g, 4, none⟩ = some (.bool k) ∧ z.cell? ⟨g, 5, none⟩ = some (.bool u) ∧ z.cell? ⟨g, 6, none⟩ = some (.bool d))
    (first | exact hs1 | exact keep8 hs1 g2 hxb hgb) ((go_at_call 52; refine hp.mono ?_; rintro e w2 ⟨rfl, h2, g2⟩))
  have HH2 := Lib.hid (And.intro h2 g2)
  clear h2 g2 hs1 hp x0 c0 c1 c2 c3 c4 c5 c6
  go_wp2
  go_end0
  have G2 : w1.grownBy w2 (some s.b) := ⟨HH2.out.2.os, HH2.out.2.tape, HH2.out.2.output, HH2.out.2.size, HH2.out.2.block⟩
  exact ⟨rfl, HT.out.ramTurned HH2.out.1 G2, grown_trans1 (grown_of_below HB.out) G2⟩
theorem checkPlace_nil (r p o : Int) (w : World) : Calls Try.prog 38 #[.pointer none, .int .i64 r, .int .i64 p, .int .i64 o] w fun e w' => e = .returned (.int .i64 1) ∧ w = w' := by
  go_enter Try.func38, Try.ntmps38
  go_wp2_with (go_at_call 26; refine (checkRoot_nil _ _).mono ?_; rintro e w' ⟨rfl, rfl⟩)
  go_ret
  exact ⟨rfl, rfl⟩
theorem checkPlace_any (h : Tab w s v ws L R) (r p o : Int) (hr : Fits r) (hp : Fits p) : Calls Try.prog 38 #[.pointer (some ⟨s.x, 0, none⟩), .int .i64 r, .int .i64 p, .int .i64 o] w fun e w' => e = .returned (.int .i64 (plE R r p o)) ∧ Below w.heap.size w w' := by
  have hc := checkRoot_any h r hr
  unfold rtE at hc
  unfold plE
  have HP := Lib.hid hp
  clear h hr hp
  by_cases hm : r ∈ R
  · rw [if_pos hm] at hc ⊢
    clear hm
    by_cases ho : o = 0 ∨ o = 3 ∨ o = 6
    · by_cases h0 : p < 0
      · have hw : wrO p o = 3 := by simp [wrO, ho, h0]
        rw [hw]
        clear hw
        rcases ho with rfl | rfl | rfl
        all_goals
          go_enter Try.func38, Try.ntmps38
          go_wp2_with fail
          refine hc.mono ?_
          rintro e w1 ⟨rfl, hb⟩
          have HB := Lib.hid hb
          clear hb hc
          go_wp2
          go_ret
          exact ⟨rfl, HB.out⟩
      · by_cases h1 : 4096 ≤ p
        · have hw : wrO p o = 3 := by unfold wrO; rw [if_neg (fun k => k ho), if_pos (by omega)]
          rw [hw]
          clear hw
          rcases ho with rfl | rfl | rfl
          all_goals
            go_enter Try.func38, Try.ntmps38
            go_wp2_with fail
            refine hc.mono ?_
            rintro e w1 ⟨rfl, hb⟩
            have HB := Lib.hid hb
            clear hb hc
            go_wp2
            go_ret
            exact ⟨rfl, HB.out⟩
        · have he := evB_of (p := p) ho
          by_cases hz : p % szO o = 0
          · have hw : wrO p o = 0 := by unfold wrO; rw [if_neg (fun k => k ho), if_neg (by omega), if_pos hz]
            have he' : evB p o = true := by rw [he]; simpa using hz
            rw [hw]
            clear hw hz he
            rcases ho with rfl | rfl | rfl
            all_goals
              go_enter Try.func38, Try.ntmps38
              go_wp2_with fail
              refine hc.mono ?_
              rintro e w1 ⟨rfl, hb⟩
              have HB := Lib.hid hb
              clear hb hc
              go_wp2_with (go_at_call 54; refine (even_any _ HP.out.1 HP.out.2 _).mono ?_; rw [he']; rintro e w' ⟨rfl, rfl⟩)
              go_ret
              exact ⟨rfl, HB.out⟩
          · have hw : wrO p o = 2 := by unfold wrO; rw [if_neg (fun k => k ho), if_neg (by omega), if_neg hz]
            have he' : evB p o = false := by rw [he]; simpa using hz
            rw [hw]
            clear hw hz he
            rcases ho with rfl | rfl | rfl
            all_goals
              go_enter Try.func38, Try.ntmps38
              go_wp2_with fail
              refine hc.mono ?_
              rintro e w1 ⟨rfl, hb⟩
              have HB := Lib.hid hb
              clear hb hc
              go_wp2_with (go_at_call 54; refine (even_any _ HP.out.1 HP.out.2 _).mono ?_; rw [he']; rintro e w' ⟨rfl, rfl⟩)
              go_ret
              exact ⟨rfl, HB.out⟩
    · have hw : wrO p o = 2 := by simp [wrO, ho]
      rw [hw]
      have k0 : (o != 0) = true := by simp; omega
      have k3 : (o != 3) = true := by simp; omega
      have k6 : (o != 6) = true := by simp; omega
      clear hw ho
      go_enter Try.func38, Try.ntmps38
      go_wp2_with fail
      refine hc.mono ?_
      rintro e w1 ⟨rfl, hb⟩
      have HB := Lib.hid hb
      clear hb hc
      go_wp2
      go_ret
      exact ⟨rfl, HB.out⟩
  · rw [if_neg hm] at hc ⊢
    clear hm
    go_enter Try.func38, Try.ntmps38
    go_wp2_with fail
    refine hc.mono ?_
    rintro e w1 ⟨rfl, hb⟩
    have HB := Lib.hid hb
    clear hb hc
    go_wp2
    go_ret
    exact ⟨rfl, HB.out⟩
end
end Go.Proofs.Ytnlimecbbockoaa
