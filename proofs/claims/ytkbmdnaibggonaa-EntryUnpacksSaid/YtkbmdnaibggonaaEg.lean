/- The walks of the laws of package entry: each returns true and writes to new memory alone. -/
import Derived.Test.YtkbmdnaibggonaaEf
namespace Go.Proofs.Ytkbmdnaibggonaa
open Go.RowKit

theorem unpack_lit (n : Int) (W : World) (h0 : 0 ≤ n) (h1 : n < 18446744073709551616) :
    Calls Try.prog 14 #[.int .u64 n] W fun e W' => e = .returned (.tuple #[.agg #[.int .i64 (unF n), .bool (unB n 0), .bool (unB n 1), .bool (unB n 7), .bool (unB n 9), .bool (unB n 5), .bool (unB n 6)], .int .i64 (unErr n)]) ∧ Below W.heap.size W W' := unpack_any n W h0 h1
theorem runpack_lit (n : Int) (W : World) (h0 : 0 ≤ n) (h1 : n < 18446744073709551616) :
    Calls Try.prog 15 #[.int .u64 n] W fun e W' => e = .returned (.tuple #[.agg #[.int .i64 (unF n), .bool (unB n 0), .bool (unB n 1), .bool (unB n 7), .bool (unB n 9), .bool (unB n 5), .bool (unB n 6)], .int .i64 (unErr n)]) ∧ Below W.heap.size W W' := runpack_any n W h0 h1
theorem allow_lit (f : Int) (p w h k u d : Bool) (q : Int) (W : World) :
    Calls Try.prog 16 #[.agg #[.int .i64 f, .bool p, .bool w, .bool h, .bool k, .bool u, .bool d], .int .i64 q] W fun e W' => e = .returned (.tuple #[.agg #[.int .i64 (alF f p w h k u d q), .bool (alP f p w h k u d q), .bool (alW f p w h k u d q), .bool (alH f p w h k u d q), .bool (alK f p w h k u d q), .bool (alU f p w h k u d q), .bool (alD f p w h k u d q)], .int .i64 (alErr f p w h k u d q)]) ∧ Below W.heap.size W W' := allow_any f p w h k u d q W
theorem rallow_lit (f : Int) (p w h k u d : Bool) (q : Int) (W : World) :
    Calls Try.prog 17 #[.agg #[.int .i64 f, .bool p, .bool w, .bool h, .bool k, .bool u, .bool d], .int .i64 q] W fun e W' => e = .returned (.tuple #[.agg #[.int .i64 (alF f p w h k u d q), .bool (alP f p w h k u d q), .bool (alW f p w h k u d q), .bool (alH f p w h k u d q), .bool (alK f p w h k u d q), .bool (alU f p w h k u d q), .bool (alD f p w h k u d q)], .int .i64 (alErr f p w h k u d q)]) ∧ Below W.heap.size W W' := rallow_any f p w h k u d q W

set_option maxHeartbeats 1000000 in
theorem unpacks_walk (n : Int) (W : World) (h0 : 0 ≤ n) (h1 : n < 18446744073709551616) :
    Calls Try.prog 4 #[.int .u64 n] W fun e W' => e = .returned (.bool true) ∧ Below W.heap.size W W' := by
  go_enter Try.func4, Try.ntmps4
  go_wp2_with fail
  refine (unpack_lit n _ h0 h1).mono ?_
  rintro e w1 ⟨rfl, hb1⟩
  go_wp2_with fail
  refine (runpack_lit n _ h0 h1).mono ?_
  rintro e w2 ⟨rfl, hb2⟩
  have X1 := (Has7.new w1 (.int .i64 (unF n)) (.bool (unB n 0)) (.bool (unB n 1)) (.bool (unB n 7)) (.bool (unB n 9)) (.bool (unB n 5)) (.bool (unB n 6)) 23).call hb2
  go_wp2_with fail
  refine (awake_any _).mono ?_
  rintro e w3 ⟨rfl, hb3⟩
  have X2 := (Has7.new w2 (.int .i64 (unF n)) (.bool (unB n 0)) (.bool (unB n 1)) (.bool (unB n 7)) (.bool (unB n 9)) (.bool (unB n 5)) (.bool (unB n 6)) 23).call hb3
  have X3 := (X1.alloc _).call hb3
  have z1 := hb1.size
  have B1 := ((hb1.trans ((Below.refl _ _).alloc (by omega) _)).trans (hb2.mono (by simp; omega)))
  have z2 := B1.size
  have B2 := ((B1.alloc (by omega) _).trans (hb3.mono (by simp; omega)))
  clear X1 hb1 hb2 hb3 z1 z2 B1
  obtain ⟨c0, c1, c2, c3, c4, c5, c6, cz⟩ := X2
  obtain ⟨d0, d1, d2, d3, d4, d5, d6, dz⟩ := X3
  go_wp2
  go_ret
  exact ⟨rfl, B2⟩

theorem keepOne {W v v' : World} {b : Nat} {x0 x1 x2 x3 x4 x5 x6 : Value} (g : Has7 v b x0 x1 x2 x3 x4 x5 x6 ∧ Below W.heap.size W v) (hb : Below v.heap.size v v') : Has7 v' b x0 x1 x2 x3 x4 x5 x6 ∧ Below W.heap.size W v' :=
  ⟨g.1.call hb, g.2.trans (hb.mono g.2.size)⟩
theorem keepThree {W v v' : World} {b b' b'' : Nat} {x0 x1 x2 x3 x4 x5 x6 y0 y1 y2 y3 y4 y5 y6 z0 z1 z2 z3 z4 z5 z6 : Value} (g : Has7 v b x0 x1 x2 x3 x4 x5 x6 ∧ Has7 v b' y0 y1 y2 y3 y4 y5 y6 ∧ Has7 v b'' z0 z1 z2 z3 z4 z5 z6 ∧ Below W.heap.size W v) (hb : Below v.heap.size v v') : Has7 v' b x0 x1 x2 x3 x4 x5 x6 ∧ Has7 v' b' y0 y1 y2 y3 y4 y5 y6 ∧ Has7 v' b'' z0 z1 z2 z3 z4 z5 z6 ∧ Below W.heap.size W v' :=
  ⟨g.1.call hb, g.2.1.call hb, g.2.2.1.call hb, g.2.2.2.trans (hb.mono g.2.2.2.size)⟩

set_option maxHeartbeats 1000000 in
theorem packs_walk (f : Int) (p w h k u d : Bool) (W : World) :
    Calls Try.prog 3 #[.agg #[.int .i64 f, .bool p, .bool w, .bool h, .bool k, .bool u, .bool d]] W fun e W' => e = .returned (.bool true) ∧ Below W.heap.size W W' := by
  go_enter Try.func3, Try.ntmps3
  go_wp2_with fail
  refine (pack_any _ _ _ _ _ _ _ _).mono ?_
  rintro e w1 ⟨rfl, hb1⟩
  have XB := (Has7.new W (.int .i64 f) (.bool p) (.bool w) (.bool h) (.bool k) (.bool u) (.bool d) 23).call hb1
  have B1 := (((Below.refl W.heap.size W).alloc (Nat.le_refl _) _).trans (hb1.mono (by simp)))
  clear hb1
  obtain ⟨c0, c1, c2, c3, c4, c5, c6, cz⟩ := XB
  go_wp2_with fail
  refine (rpack_any _ _ _ _ _ _ _ _).mono ?_
  rintro e w2 ⟨rfl, hb2⟩
  have XC := Has7.call (⟨c0, c1, c2, c3, c4, c5, c6, cz⟩ : Has7 w1 W.heap.size (.int .i64 f) (.bool p) (.bool w) (.bool h) (.bool k) (.bool u) (.bool d)) hb2
  have B2 := B1.trans (hb2.mono B1.size)
  clear hb2 B1 c0 c1 c2 c3 c4 c5 c6 cz
  go_wp2_with fail
  go_region_held3 (fun w' => (w'.cell? ⟨W.heap.size, 0, none⟩ = some (.int .i64 f) ∧ w'.cell? ⟨W.heap.size, 1, none⟩ = some (.bool p) ∧ w'.cell? ⟨W.heap.size, 2, none⟩ = some (.bool w) ∧ w'.cell? ⟨W.heap.size, 3, none⟩ = some (.bool h) ∧ w'.cell? ⟨W.heap.size, 4, none⟩ = some (.bool k) ∧ w'.cell? ⟨W.heap.size, 5, none⟩ = some (.bool u) ∧ w'.cell? ⟨W.heap.size, 6, none⟩ = some (.bool d) ∧ W.heap.size < w'.heap.size) ∧ Below W.heap.size W w')
    (first | exact ⟨XC.drew, B2.drew⟩ | exact keepOne (by assumption) (by assumption))
    (first | (go_at_call 11; refine (awake_any _).mono ?_; rintro e w' ⟨rfl, hb⟩) | (go_at_call 12; refine (check_any _ _ _ _ _ _ _ _).mono ?_; rintro e w' ⟨rfl, hb⟩) | (go_at_call 13; refine (rcheck_any _ _ _ _ _ _ _ _).mono ?_; rintro e w' ⟨rfl, hb⟩))
  go_wp2
  go_ret
  exact ⟨rfl, And.right (by assumption)⟩

set_option maxHeartbeats 2000000 in
theorem allows_walk (f : Int) (p w h k u d : Bool) (q : Int) (W : World) :
    Calls Try.prog 5 #[.agg #[.int .i64 f, .bool p, .bool w, .bool h, .bool k, .bool u, .bool d], .int .i64 q] W fun e W' => e = .returned (.bool true) ∧ Below W.heap.size W W' := by
  go_enter Try.func5, Try.ntmps5
  go_wp2_with fail
  refine (allow_lit _ _ _ _ _ _ _ _ _).mono ?_
  rintro e w1 ⟨rfl, hb1⟩
  have XB := (Has7.new W (.int .i64 f) (.bool p) (.bool w) (.bool h) (.bool k) (.bool u) (.bool d) 23).call hb1
  have B1 := (((Below.refl W.heap.size W).alloc (Nat.le_refl _) _).trans (hb1.mono (by simp)))
  clear hb1
  obtain ⟨c0, c1, c2, c3, c4, c5, c6, cz⟩ := XB
  go_wp2_with fail
  refine (rallow_lit _ _ _ _ _ _ _ _ _).mono ?_
  rintro e w2 ⟨rfl, hb2⟩
  have XC := (Has7.alloc (⟨c0, c1, c2, c3, c4, c5, c6, cz⟩ : Has7 w1 W.heap.size (.int .i64 f) (.bool p) (.bool w) (.bool h) (.bool k) (.bool u) (.bool d)) _).call hb2
  have XD := (Has7.new w1 (.int .i64 (alF f p w h k u d q)) (.bool (alP f p w h k u d q)) (.bool (alW f p w h k u d q)) (.bool (alH f p w h k u d q)) (.bool (alK f p w h k u d q)) (.bool (alU f p w h k u d q)) (.bool (alD f p w h k u d q)) 23).call hb2
  have B2 := (B1.alloc B1.size _).trans (hb2.mono (by have := B1.size; simp; omega))
  clear hb2 c0 c1 c2 c3 c4 c5 c6 cz
  have XE := Has7.new w2 (.int .i64 (alF f p w h k u d q)) (.bool (alP f p w h k u d q)) (.bool (alW f p w h k u d q)) (.bool (alH f p w h k u d q)) (.bool (alK f p w h k u d q)) (.bool (alU f p w h k u d q)) (.bool (alD f p w h k u d q)) 23
  have XC' := XC.alloc (.cells #[.int .i64 (alF f p w h k u d q), .bool (alP f p w h k u d q), .bool (alW f p w h k u d q), .bool (alH f p w h k u d q), .bool (alK f p w h k u d q), .bool (alU f p w h k u d q), .bool (alD f p w h k u d q)] 23)
  have XD' := XD.alloc (.cells #[.int .i64 (alF f p w h k u d q), .bool (alP f p w h k u d q), .bool (alW f p w h k u d q), .bool (alH f p w h k u d q), .bool (alK f p w h k u d q), .bool (alU f p w h k u d q), .bool (alD f p w h k u d q)] 23)
  have B3 := B2.alloc B2.size (.cells #[.int .i64 (alF f p w h k u d q), .bool (alP f p w h k u d q), .bool (alW f p w h k u d q), .bool (alH f p w h k u d q), .bool (alK f p w h k u d q), .bool (alU f p w h k u d q), .bool (alD f p w h k u d q)] 23)
  clear B2 B1 XC XD
  go_wp2_with fail
  go_region_held3 (fun w' => (w'.cell? ⟨W.heap.size, 0, none⟩ = some (.int .i64 f) ∧ w'.cell? ⟨W.heap.size, 1, none⟩ = some (.bool p) ∧ w'.cell? ⟨W.heap.size, 2, none⟩ = some (.bool w) ∧ w'.cell? ⟨W.heap.size, 3, none⟩ = some (.bool h) ∧ w'.cell? ⟨W.heap.size, 4, none⟩ = some (.bool k) ∧ w'.cell? ⟨W.heap.size, 5, none⟩ = some (.bool u) ∧ w'.cell? ⟨W.heap.size, 6, none⟩ = some (.bool d) ∧ W.heap.size < w'.heap.size) ∧ (w'.cell? ⟨w1.heap.size, 0, none⟩ = some (.int .i64 (alF f p w h k u d q)) ∧ w'.cell? ⟨w1.heap.size, 1, none⟩ = some (.bool (alP f p w h k u d q)) ∧ w'.cell? ⟨w1.heap.size, 2, none⟩ = some (.bool (alW f p w h k u d q)) ∧ w'.cell? ⟨w1.heap.size, 3, none⟩ = some (.bool (alH f p w h k u d q)) ∧ w'.cell? ⟨w1.heap.size, 4, none⟩ = some (.bool (alK f p w h k u d q)) ∧ w'.cell? ⟨w1.heap.size, 5, none⟩ = some (.bool (alU f p w h k u d q)) ∧ w'.cell? ⟨w1.heap.size, 6, none⟩ = some (.bool (alD f p w h k u d q)) ∧ w1.heap.size < w'.heap.size) ∧ (w'.cell? ⟨w2.heap.size, 0, none⟩ = some (.int .i64 (alF f p w h k u d q)) ∧ w'.cell? ⟨w2.heap.size, 1, none⟩ = some (.bool (alP f p w h k u d q)) ∧ w'.cell? ⟨w2.heap.size, 2, none⟩ = some (.bool (alW f p w h k u d q)) ∧ w'.cell? ⟨w2.heap.size, 3, none⟩ = some (.bool (alH f p w h k u d q)) ∧ w'.cell? ⟨w2.heap.size, 4, none⟩ = some (.bool (alK f p w h k u d q)) ∧ w'.cell? ⟨w2.heap.size, 5, none⟩ = some (.bool (alU f p w h k u d q)) ∧ w'.cell? ⟨w2.heap.size, 6, none⟩ = some (.bool (alD f p w h k u d q)) ∧ w2.heap.size < w'.heap.size) ∧ Below W.heap.size W w')
    (first | exact ⟨XC'.drew, XD'.drew, XE.drew, B3.drew⟩ | exact keepThree (by assumption) (by assumption))
    (first | (go_at_call 11; refine (awake_any _).mono ?_; rintro e w' ⟨rfl, hb⟩) | (go_at_call 18; refine (prot_any _ _ _ _ _ _ _ _).mono ?_; rintro e w' ⟨rfl, hb⟩) | (go_at_call 19; refine (rprot_any _ _ _ _ _ _ _ _).mono ?_; rintro e w' ⟨rfl, hb⟩))
  go_wp2
  go_ret
  exact ⟨rfl, And.right (And.right (And.right (by assumption)))⟩
end Go.Proofs.Ytkbmdnaibggonaa
