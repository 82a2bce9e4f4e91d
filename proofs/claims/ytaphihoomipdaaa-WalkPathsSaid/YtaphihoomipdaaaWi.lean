/- A memory with tables, here and by the document (Made): both lie over the same words. -/
import Derived.Test.YtaphihoomipdaaaWh
import Derived.Test.YtaphihoomipdaaaWo
import Derived.Deep.RegionHeld3
namespace Go.Proofs.Ytaphihoomipdaaa
open Go.RowKit
set_option maxRecDepth 100000 in
set_option maxHeartbeats 1000000 in
theorem made_bad (f : Int) (ap : Option Addr) (n c : Nat) (W : World) (hf : f < 8 ∨ 1024 < f) :
    Calls Try.prog 7 #[.int .i64 f, .slice ap n c] W fun e W' => e = .returned (.tuple #[.pointer none, .pointer none, .bool true]) ∧ Below W.heap.size W W' := by
  have HF := Lib.hid hf
  clear hf
  go_enter Try.func7, Try.ntmps7
  go_wp2_with (first | (go_at_call 15; refine (new_bad f _ HF.out).mono ?_; rintro e w' ⟨rfl, rfl⟩) | (go_at_call 16; refine (refNew_bad f _ HF.out).mono ?_; rintro e w' ⟨rfl, rfl⟩))
  go_loop [11] (fun i => i = .int .i64 0) (fun _ => 0)
  case atStart => rfl
  case round =>
    subst hrel
    go_wp2
    go_ret3
    exact ⟨rfl, Below.refl _ _⟩
/-- Nine cells of a block: the place, and the entry. -/
def Nine (v : World) (g : Nat) (l : Ld) : Prop := v.cell? ⟨g, 0, none⟩ = some (.int .i64 l.t) ∧ v.cell? ⟨g, 1, none⟩ = some (.int .i64 l.i) ∧ v.cell? ⟨g, 2, none⟩ = some (.int .i64 l.f) ∧ v.cell? ⟨g, 3, none⟩ = some (.bool l.p) ∧ v.cell? ⟨g, 4, none⟩ = some (.bool l.w) ∧ v.cell? ⟨g, 5, none⟩ = some (.bool l.h) ∧ v.cell? ⟨g, 6, none⟩ = some (.bool l.k)
  ∧ v.cell? ⟨g, 7, none⟩ = some (.bool l.u) ∧ v.cell? ⟨g, 8, none⟩ = some (.bool l.d)
theorem Nine.grown {v v' : World} {g b : Nat} {l : Ld} (h : Nine v g l) (hg : v.grownBy v' (some b)) (hne : g ≠ b) : Nine v' g l := by
  have hlt : g < v.heap.size := World.block_lt_of_cell? v _ h.1
  have k := fun {i : Nat} {u : Value} (c : v.cell? ⟨g, i, none⟩ = some u) => cell_grown hg hne hlt c
  exact ⟨k h.1, k h.2.1, k h.2.2.1, k h.2.2.2.1, k h.2.2.2.2.1, k h.2.2.2.2.2.1, k h.2.2.2.2.2.2.1, k h.2.2.2.2.2.2.2.1, k h.2.2.2.2.2.2.2.2⟩
theorem lds_cells {W w : World} {ap : Option Addr} {n k : Nat} (h : Lds W W.heap.size ap n) (hb : Below W.heap.size W w) (hk : k < n) :
    ∃ ad, ap = some ad ∧ ∃ l, IsLd l ∧ LdAt w (ad.add (k * 11)) l := by
  obtain ⟨ad, e, _, hat⟩ := (h.below hb) (by omega)
  obtain ⟨l, ok, g⟩ := hat k hk
  exact ⟨ad, e, l, ok, g⟩
theorem Row.nine {w : World} {g : Nat} {t : TypeId} {l : Ld} (h : Row w g t (ldCells l)) : Nine w g l := ⟨h.cell 0, h.cell 1, h.cell 2, h.cell 3, h.cell 4, h.cell 5, h.cell 6, h.cell 7, h.cell 8⟩
set_option maxRecDepth 100000 in
set_option maxHeartbeats 4000000 in
theorem made_ok (F : Nat) (ap : Option Addr) (n c : Nat) (W : World) (h8 : 8 ≤ F) (h1024 : F ≤ 1024) (hl : Lds W W.heap.size ap n) :
    Calls Try.prog 7 #[.int .i64 F, .slice ap n c] W fun e W' => ∃ ra rb xa xb ws, e = .returned (.tuple #[.pointer (some ⟨ra, 0, none⟩), .pointer (some ⟨xa, 0, none⟩), .bool true]) ∧ St W W' W.heap.size ra rb xa xb (F * 8) ws := by
  go_enter Try.func7, Try.ntmps7
  go_wp2_with fail
  refine (made_new F _ h8 h1024).mono ?_
  rintro e w1 ⟨ra, rb, rfl, h1, b1, l1⟩
  go_wp2_with fail
  refine (made_ref F _ h8 h1024).mono ?_
  rintro e w2 ⟨xa, xb, rfl, h2, b2, l2⟩
  have S2 := st_made (Below.refl _ W) h1 b1 l1 h2 b2 l2
  clear h1 b1 l1 h2 b2 l2
  go_wp2_with fail
  go_loopw [11] (fun i wr => ∃ k : Nat, k ≤ n ∧ i = .int .i64 k ∧ ∃ ws, St W wr W.heap.size ra rb xa xb (F * 8) ws) (fun i _ => n - (intOf i).toNat)
  case atStart => exact ⟨0, by omega, rfl, _, S2⟩
  case round =>
    obtain ⟨k, hk, rfl, ws, S⟩ := hrel
    clear S2
    by_cases hboth : k < n ∧ k < 80
    · obtain ⟨hlt, h80⟩ := hboth
      obtain ⟨ad, rfl, l, ok, c0, c1, c2, c3, c4, c5, c6, c7, c8, c9, c10⟩ := lds_cells hl S.bel hlt
      obtain ⟨g, hg⟩ : ∃ g, g = wr.heap.size := ⟨_, rfl⟩
      obtain ⟨w5, hw5⟩ : ∃ w5, w5 = wr.alloc (.cells #[.int .i64 l.t, .int .i64 l.i, .int .i64 l.f, .bool l.p, .bool l.w, .bool l.h, .bool l.k, .bool l.u, .bool l.d, .bool l.raw, .int .u64 l.v] 27) := ⟨_, rfl⟩
      have b5 : Below wr.heap.size wr w5 := hw5 ▸ below_new wr _ _
      have r5 : Row w5 g 27 (ldCells l) := by rw [hw5, hg]; exact Row.new wr _ _
      have S5 := Lib.hid (S.call b5)
      have HW := Lib.hid hw5
      have R5 := Lib.hid r5
      have hrb := Lib.hid (show rb < g by rw [hg]; exact S.r.row.lt)
      have hxb := Lib.hid (show xb < g by rw [hg]; exact S.x.row.lt)
      have HG := Lib.hid hg
      clear hw5 b5 r5 S hg
      go_upto_region 9 with (fail)
      rw [← HW.out, ← HG.out]
      obtain ⟨d0, d1, d2, d3, d4, d5, d6, d7, d8⟩ := R5.out.nine
      have d9 : w5.cell? ⟨g, 9, none⟩ = some (.bool l.raw) := R5.out.cell 9
      have d10 : w5.cell? ⟨g, 10, none⟩ = some (.int .u64 l.v) := R5.out.cell 10
      clear c0 c1 c2 c3 c4 c5 c6 c7 c8 c9 c10
      have ok1 := ok.1
      have ok2 := ok.2
      cases hraw : l.raw
      · rw [hraw] at d9
        have had : ra ≠ xb := S5.out.r.top.apart S5.out.x.row (by decide)
        have hcb : xa ≠ rb := S5.out.x.top.apart S5.out.r.row (by decide)
        have hbd := S5.out.ne
        have h0 : RamAt w5.drew ra rb 75 (F * 8) ws := S5.out.r.drewN 1
        have hx0 : RamAt w5.drew xa xb 67 (F * 8) ws := S5.out.x.drewN 1
        have hs : Nine w5.drew g l := R5.out.nine
        have zb := hrb.out
        have zd := hxb.out
        go_wp2_with fail
        unfold Nine at hs
        clear d0 d1 d2 d3 d4 d5 d6 d7 d8 d9 d10
        go_region_held3 (fun v => v.cell? ⟨g, 0, none⟩ = some (.int .i64 l.t) ∧ v.cell? ⟨g, 1, none⟩ = some (.int .i64 l.i) ∧ v.cell? ⟨g, 2, none⟩ = some (.int .i64 l.f) ∧ v.cell? ⟨g, 3, none⟩ = some (.bool l.p) ∧ v.cell? ⟨g, 4, none⟩ = some (.bool l.w) ∧ v.cell? ⟨g, 5, none⟩ = some (.bool l.h) ∧ v.cell? ⟨g, 6, none⟩ = some (.bool l.k) ∧ v.cell? ⟨g, 7, none⟩ = some (.bool l.u) ∧ v.cell? ⟨g, 8, none⟩ = some (.bool l.d))
          (first | exact hs | exact Nine.grown (l := l) (by assumption) g1 (by omega) | exact Nine.grown (l := l) (by assumption) g2 (by omega))
          (first | (go_at_call 13; refine (put_entry h0 l.t l.i l.f l.p l.w l.h l.k l.u l.d).mono ?_; rintro e w1 ⟨rfl, h1, g1⟩; have hx1 := hx0.grown g1 (by simpa using hcb) (by simpa using hbd.symm)) | (go_at_call 19; refine (refPut_entry hx1 l.t l.i l.f l.p l.w l.h l.k l.u l.d).mono ?_; rintro e w2 ⟨rfl, h2, g2⟩))
        have S' := S5.out.step (h1.grown g2 (by simpa using had) (by simpa using hbd)) h2 (((Only.refl w5 rb xb).drew.trans (Only.left g1)).trans (Only.right g2))
        go_wp2
        go_roundw
        case rel => exact ⟨k + 1, by omega, by go_num, _, S'⟩
        case measure => simp [intOf]; omega
      · rw [hraw] at d9
        by_cases hin : 0 ≤ l.t ∧ l.t < F ∧ 0 ≤ l.i ∧ l.i < 8
        · obtain ⟨n0, n1, n2, n3⟩ := hin
          go_wp2_with fail
          refine (store_any S5.out.r _ l.v ok1 ok2).mono ?_
          rintro e w6 ⟨rfl, h6, g6⟩
          have R6 := Lib.hid (R5.out.grown g6 (by have := hrb.out; intro e; injection e with e; omega))
          have hx6 := S5.out.x.grown g6 (by have := S5.out.x.top.apart S5.out.r.row (by decide); simpa using this) (by have := S5.out.ne; simpa using this.symm)
          have o6 := Lib.hid (Only.left (d := xb) g6)
          have H6 := Lib.hid h6
          have f0 : w6.cell? ⟨g, 0, none⟩ = some (.int .i64 l.t) := R6.out.cell 0
          have f1 : w6.cell? ⟨g, 1, none⟩ = some (.int .i64 l.i) := R6.out.cell 1
          have f10 : w6.cell? ⟨g, 10, none⟩ = some (.int .u64 l.v) := R6.out.cell 10
          clear d0 d1 d2 d3 d4 d5 d6 d7 d8 d9 d10 g6 h6
          go_wp2_with fail
          refine (refStore_any hx6 _ l.v ok1 ok2).mono ?_
          rintro e w7 ⟨rfl, h7, g7⟩
          have S' := S5.out.step (H6.out.grown g7 (by have := S5.out.r.top.apart S5.out.x.row (by decide); simpa using this) (by have := S5.out.ne; simpa using this)) h7 (o6.out.trans (Only.right g7))
          clear f0 f1 f10 g7 h7 hx6
          go_wp2
          go_roundw
          case rel => exact ⟨k + 1, by omega, by go_num, _, S'⟩
          case measure => simp [intOf]; omega
        · by_cases n0 : l.t < 0
          · clear hin
            go_wp2_with fail
            go_roundw
            case rel => exact ⟨k + 1, by omega, by go_num, _, S5.out⟩
            case measure => simp [intOf]; omega
          · have n0' : 0 ≤ l.t := by omega
            by_cases n1 : (F : Int) ≤ l.t
            · clear hin n0
              go_wp2_with fail
              go_roundw
              case rel => exact ⟨k + 1, by omega, by go_num, _, S5.out⟩
              case measure => simp [intOf]; omega
            · have n1' : l.t < F := by omega
              by_cases n2 : l.i < 0
              · clear hin n0 n1
                go_wp2_with fail
                go_roundw
                case rel => exact ⟨k + 1, by omega, by go_num, _, S5.out⟩
                case measure => simp [intOf]; omega
              · have n2' : 0 ≤ l.i := by omega
                have n3 : 8 ≤ l.i := by omega
                clear hin n0 n1 n2
                go_wp2_with fail
                go_roundw
                case rel => exact ⟨k + 1, by omega, by go_num, _, S5.out⟩
                case measure => simp [intOf]; omega
    · by_cases hlt : k < n
      case' pos => have h80 : 80 ≤ k := by omega
      all_goals
        clear hboth
        go_wp2_with fail
        go_ret3
        exact ⟨_, _, _, _, _, rfl, S⟩
end Go.Proofs.Ytaphihoomipdaaa
