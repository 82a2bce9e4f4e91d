/- The reference's Map: its errors, the whole (gen/genW0.py). -/
import Derived.Test.YtodepfgfgphkbaaV9
namespace Go.Proofs.Ytodepfgfgphkbaa
open Go.RowKit
section
variable {w w' : World} {B D xa xb : Nat} {v vb : Value} {P Q : Int → Pg}
set_option maxRecDepth 100000 in
theorem mapr_1zz (h : Px B w xa v P) {a n : Int} (ha : Fits a) (hn : Fits n) (hr : rtI a n 0 ≠ 0) : Calls Try.prog 38 #[.pointer (some ⟨xa, 0, none⟩), .int .i64 a, .int .i64 n, .int .i64 1, .int .i64 0, .int .i64 0] w (DidE B w xa P (mapP P a n 1 0 0) (rtI a n 0)) := by
  have hri := fun w => refRight_any a n 0 ha.1 ha.2 hn.1 hn.2 w
  obtain ⟨er, her⟩ : ∃ er, er = rtI a n 0 := ⟨_, rfl⟩
  rw [← her] at hri hr ⊢
  have hpr := fun w => prot_is 0 w
  rw [show prB 0 = true by decide] at hpr
  have hsz := fun w => size_is 1 w
  rw [show szO 1 = 1 by decide] at hsz
  have h0' : (er != 0) = true := by simpa using hr
  have HN := Lib.hid (DidE.no (Q := mapP P a n 1 0 0) hr h (Below.refl _ _))
  clear h ha hn her hr
  go_enter Try.func38, Try.ntmps38
  go_wp2_with (first | (go_at_call 51; (with_reducible refine (hri _).mono ?_); rintro e w1 ⟨rfl, rfl⟩) | (go_at_call 49; (with_reducible refine (hpr _).mono ?_); rintro e w1 ⟨rfl, rfl⟩) | (go_at_call 50; (with_reducible refine (hsz _).mono ?_); rintro e w1 ⟨rfl, rfl⟩))
  go_ret
  exact HN.out
set_option maxRecDepth 100000 in
theorem mapr_1sz (h : Px B w xa v P) {a n : Int} (ha : Fits a) (hn : Fits n) {p : Int} (hp : prB p = true) (hp0 : p ≠ 0) (hr : rtI a n 0 ≠ 0) : Calls Try.prog 38 #[.pointer (some ⟨xa, 0, none⟩), .int .i64 a, .int .i64 n, .int .i64 1, .int .i64 p, .int .i64 0] w (DidE B w xa P (mapP P a n 1 p 0) (rtI a n 0)) := by
  have hri := fun w => refRight_any a n 0 ha.1 ha.2 hn.1 hn.2 w
  obtain ⟨er, her⟩ : ∃ er, er = rtI a n 0 := ⟨_, rfl⟩
  rw [← her] at hri hr ⊢
  have hpr := fun w => prot_is p w
  rw [hp] at hpr
  have hsz := fun w => size_is 1 w
  rw [show szO 1 = 1 by decide] at hsz
  have p0 : (p == 0) = false := by simpa using hp0
  have h0' : (er != 0) = true := by simpa using hr
  have HN := Lib.hid (DidE.no (Q := mapP P a n 1 p 0) hr h (Below.refl _ _))
  clear h ha hn her hr hp hp0
  go_enter Try.func38, Try.ntmps38
  go_wp2_with (first | (go_at_call 51; (with_reducible refine (hri _).mono ?_); rintro e w1 ⟨rfl, rfl⟩) | (go_at_call 49; (with_reducible refine (hpr _).mono ?_); rintro e w1 ⟨rfl, rfl⟩) | (go_at_call 50; (with_reducible refine (hsz _).mono ?_); rintro e w1 ⟨rfl, rfl⟩))
  go_ret
  exact HN.out
set_option maxRecDepth 100000 in
theorem mapr_2zz (h : Px B w xa v P) {a n : Int} (ha : Fits a) (hn : Fits n) (hr : rtI a n 0 ≠ 0) : Calls Try.prog 38 #[.pointer (some ⟨xa, 0, none⟩), .int .i64 a, .int .i64 n, .int .i64 2, .int .i64 0, .int .i64 0] w (DidE B w xa P (mapP P a n 2 0 0) (rtI a n 0)) := by
  have hri := fun w => refRight_any a n 0 ha.1 ha.2 hn.1 hn.2 w
  obtain ⟨er, her⟩ : ∃ er, er = rtI a n 0 := ⟨_, rfl⟩
  rw [← her] at hri hr ⊢
  have hpr := fun w => prot_is 0 w
  rw [show prB 0 = true by decide] at hpr
  have hsz := fun w => size_is 2 w
  rw [show szO 2 = 1 by decide] at hsz
  have h0' : (er != 0) = true := by simpa using hr
  have HN := Lib.hid (DidE.no (Q := mapP P a n 2 0 0) hr h (Below.refl _ _))
  clear h ha hn her hr
  go_enter Try.func38, Try.ntmps38
  go_wp2_with (first | (go_at_call 51; (with_reducible refine (hri _).mono ?_); rintro e w1 ⟨rfl, rfl⟩) | (go_at_call 49; (with_reducible refine (hpr _).mono ?_); rintro e w1 ⟨rfl, rfl⟩) | (go_at_call 50; (with_reducible refine (hsz _).mono ?_); rintro e w1 ⟨rfl, rfl⟩))
  go_ret
  exact HN.out
set_option maxRecDepth 100000 in
theorem mapr_2zs (h : Px B w xa v P) {a n : Int} (ha : Fits a) (hn : Fits n) {o : Int} (ho : 0 < o) (hr : rtI a n 0 ≠ 0) : Calls Try.prog 38 #[.pointer (some ⟨xa, 0, none⟩), .int .i64 a, .int .i64 n, .int .i64 2, .int .i64 0, .int .i64 o] w (DidE B w xa P (mapP P a n 2 0 o) (rtI a n 0)) := by
  have hri := fun w => refRight_any a n 0 ha.1 ha.2 hn.1 hn.2 w
  obtain ⟨er, her⟩ : ∃ er, er = rtI a n 0 := ⟨_, rfl⟩
  rw [← her] at hri hr ⊢
  have hpr := fun w => prot_is 0 w
  rw [show prB 0 = true by decide] at hpr
  have hsz := fun w => size_is 2 w
  rw [show szO 2 = 1 by decide] at hsz
  have hsh := fun w => shared_is 2 w
  rw [show decide (shr 2) = true by decide] at hsh
  have ho1 : ¬ o < 0 := by omega
  have ho2 : decide (o < 0) = false := decide_eq_false ho1
  have ho3 : decide (0 < o) = true := decide_eq_true ho
  have h0' : (er != 0) = true := by simpa using hr
  have HN := Lib.hid (DidE.no (Q := mapP P a n 2 0 o) hr h (Below.refl _ _))
  clear h ha hn her hr
  go_enter Try.func38, Try.ntmps38
  go_wp2_with (first | (go_at_call 51; (with_reducible refine (hri _).mono ?_); rintro e w1 ⟨rfl, rfl⟩) | (go_at_call 49; (with_reducible refine (hpr _).mono ?_); rintro e w1 ⟨rfl, rfl⟩) | (go_at_call 50; (with_reducible refine (hsz _).mono ?_); rintro e w1 ⟨rfl, rfl⟩) | (go_at_call 13; (with_reducible refine (hsh _).mono ?_); rintro e w1 ⟨rfl, rfl⟩))
  go_ret
  exact HN.out
set_option maxRecDepth 100000 in
theorem mapr_2sz (h : Px B w xa v P) {a n : Int} (ha : Fits a) (hn : Fits n) {p : Int} (hp : prB p = true) (hp0 : p ≠ 0) (hr : rtI a n 0 ≠ 0) : Calls Try.prog 38 #[.pointer (some ⟨xa, 0, none⟩), .int .i64 a, .int .i64 n, .int .i64 2, .int .i64 p, .int .i64 0] w (DidE B w xa P (mapP P a n 2 p 0) (rtI a n 0)) := by
  have hri := fun w => refRight_any a n 0 ha.1 ha.2 hn.1 hn.2 w
  obtain ⟨er, her⟩ : ∃ er, er = rtI a n 0 := ⟨_, rfl⟩
  rw [← her] at hri hr ⊢
  have hpr := fun w => prot_is p w
  rw [hp] at hpr
  have hsz := fun w => size_is 2 w
  rw [show szO 2 = 1 by decide] at hsz
  have p0 : (p == 0) = false := by simpa using hp0
  have h0' : (er != 0) = true := by simpa using hr
  have HN := Lib.hid (DidE.no (Q := mapP P a n 2 p 0) hr h (Below.refl _ _))
  clear h ha hn her hr hp hp0
  go_enter Try.func38, Try.ntmps38
  go_wp2_with (first | (go_at_call 51; (with_reducible refine (hri _).mono ?_); rintro e w1 ⟨rfl, rfl⟩) | (go_at_call 49; (with_reducible refine (hpr _).mono ?_); rintro e w1 ⟨rfl, rfl⟩) | (go_at_call 50; (with_reducible refine (hsz _).mono ?_); rintro e w1 ⟨rfl, rfl⟩))
  go_ret
  exact HN.out
set_option maxRecDepth 100000 in
theorem mapr_2ss (h : Px B w xa v P) {a n : Int} (ha : Fits a) (hn : Fits n) {p : Int} (hp : prB p = true) (hp0 : p ≠ 0) {o : Int} (ho : 0 < o) (hr : rtI a n 0 ≠ 0) : Calls Try.prog 38 #[.pointer (some ⟨xa, 0, none⟩), .int .i64 a, .int .i64 n, .int .i64 2, .int .i64 p, .int .i64 o] w (DidE B w xa P (mapP P a n 2 p o) (rtI a n 0)) := by
  have hri := fun w => refRight_any a n 0 ha.1 ha.2 hn.1 hn.2 w
  obtain ⟨er, her⟩ : ∃ er, er = rtI a n 0 := ⟨_, rfl⟩
  rw [← her] at hri hr ⊢
  have hpr := fun w => prot_is p w
  rw [hp] at hpr
  have hsz := fun w => size_is 2 w
  rw [show szO 2 = 1 by decide] at hsz
  have hsh := fun w => shared_is 2 w
  rw [show decide (shr 2) = true by decide] at hsh
  have p0 : (p == 0) = false := by simpa using hp0
  have ho1 : ¬ o < 0 := by omega
  have ho2 : decide (o < 0) = false := decide_eq_false ho1
  have ho3 : decide (0 < o) = true := decide_eq_true ho
  have h0' : (er != 0) = true := by simpa using hr
  have HN := Lib.hid (DidE.no (Q := mapP P a n 2 p o) hr h (Below.refl _ _))
  clear h ha hn her hr hp hp0
  go_enter Try.func38, Try.ntmps38
  go_wp2_with (first | (go_at_call 51; (with_reducible refine (hri _).mono ?_); rintro e w1 ⟨rfl, rfl⟩) | (go_at_call 49; (with_reducible refine (hpr _).mono ?_); rintro e w1 ⟨rfl, rfl⟩) | (go_at_call 50; (with_reducible refine (hsz _).mono ?_); rintro e w1 ⟨rfl, rfl⟩) | (go_at_call 13; (with_reducible refine (hsh _).mono ?_); rintro e w1 ⟨rfl, rfl⟩))
  go_ret
  exact HN.out
set_option maxRecDepth 100000 in
theorem mapr_3sz (h : Px B w xa v P) {a n : Int} (ha : Fits a) (hn : Fits n) {p : Int} (hp : prB p = true) (hp0 : p ≠ 0) (hr : rtI a n 3 ≠ 0) : Calls Try.prog 38 #[.pointer (some ⟨xa, 0, none⟩), .int .i64 a, .int .i64 n, .int .i64 3, .int .i64 p, .int .i64 0] w (DidE B w xa P (mapP P a n 3 p 0) (rtI a n 3)) := by
  have hri := fun w => refRight_any a n 3 ha.1 ha.2 hn.1 hn.2 w
  obtain ⟨er, her⟩ : ∃ er, er = rtI a n 3 := ⟨_, rfl⟩
  rw [← her] at hri hr ⊢
  have hpr := fun w => prot_is p w
  rw [hp] at hpr
  have hsz := fun w => size_is 3 w
  rw [show szO 3 = 8 by decide] at hsz
  have p0 : (p == 0) = false := by simpa using hp0
  have h0' : (er != 0) = true := by simpa using hr
  have HN := Lib.hid (DidE.no (Q := mapP P a n 3 p 0) hr h (Below.refl _ _))
  clear h ha hn her hr hp hp0
  go_enter Try.func38, Try.ntmps38
  go_wp2_with (first | (go_at_call 51; (with_reducible refine (hri _).mono ?_); rintro e w1 ⟨rfl, rfl⟩) | (go_at_call 49; (with_reducible refine (hpr _).mono ?_); rintro e w1 ⟨rfl, rfl⟩) | (go_at_call 50; (with_reducible refine (hsz _).mono ?_); rintro e w1 ⟨rfl, rfl⟩))
  go_ret
  exact HN.out
set_option maxRecDepth 100000 in
theorem mapr_4sz (h : Px B w xa v P) {a n : Int} (ha : Fits a) (hn : Fits n) {p : Int} (hp : prB p = true) (hp0 : p ≠ 0) (hr : rtI a n 6 ≠ 0) : Calls Try.prog 38 #[.pointer (some ⟨xa, 0, none⟩), .int .i64 a, .int .i64 n, .int .i64 4, .int .i64 p, .int .i64 0] w (DidE B w xa P (mapP P a n 4 p 0) (rtI a n 6)) := by
  have hri := fun w => refRight_any a n 6 ha.1 ha.2 hn.1 hn.2 w
  obtain ⟨er, her⟩ : ∃ er, er = rtI a n 6 := ⟨_, rfl⟩
  rw [← her] at hri hr ⊢
  have hpr := fun w => prot_is p w
  rw [hp] at hpr
  have hsz := fun w => size_is 4 w
  rw [show szO 4 = 64 by decide] at hsz
  have p0 : (p == 0) = false := by simpa using hp0
  have h0' : (er != 0) = true := by simpa using hr
  have HN := Lib.hid (DidE.no (Q := mapP P a n 4 p 0) hr h (Below.refl _ _))
  clear h ha hn her hr hp hp0
  go_enter Try.func38, Try.ntmps38
  go_wp2_with (first | (go_at_call 51; (with_reducible refine (hri _).mono ?_); rintro e w1 ⟨rfl, rfl⟩) | (go_at_call 49; (with_reducible refine (hpr _).mono ?_); rintro e w1 ⟨rfl, rfl⟩) | (go_at_call 50; (with_reducible refine (hsz _).mono ?_); rintro e w1 ⟨rfl, rfl⟩))
  go_ret
  exact HN.out
set_option maxRecDepth 100000 in
theorem mapr_5sz (h : Px B w xa v P) {a n : Int} (ha : Fits a) (hn : Fits n) {p : Int} (hp : prB p = true) (hp0 : p ≠ 0) (hr : rtI a n 3 ≠ 0) : Calls Try.prog 38 #[.pointer (some ⟨xa, 0, none⟩), .int .i64 a, .int .i64 n, .int .i64 5, .int .i64 p, .int .i64 0] w (DidE B w xa P (mapP P a n 5 p 0) (rtI a n 3)) := by
  have hri := fun w => refRight_any a n 3 ha.1 ha.2 hn.1 hn.2 w
  obtain ⟨er, her⟩ : ∃ er, er = rtI a n 3 := ⟨_, rfl⟩
  rw [← her] at hri hr ⊢
  have hpr := fun w => prot_is p w
  rw [hp] at hpr
  have hsz := fun w => size_is 5 w
  rw [show szO 5 = 8 by decide] at hsz
  have p0 : (p == 0) = false := by simpa using hp0
  have h0' : (er != 0) = true := by simpa using hr
  have HN := Lib.hid (DidE.no (Q := mapP P a n 5 p 0) hr h (Below.refl _ _))
  clear h ha hn her hr hp hp0
  go_enter Try.func38, Try.ntmps38
  go_wp2_with (first | (go_at_call 51; (with_reducible refine (hri _).mono ?_); rintro e w1 ⟨rfl, rfl⟩) | (go_at_call 49; (with_reducible refine (hpr _).mono ?_); rintro e w1 ⟨rfl, rfl⟩) | (go_at_call 50; (with_reducible refine (hsz _).mono ?_); rintro e w1 ⟨rfl, rfl⟩))
  go_ret
  exact HN.out
set_option maxRecDepth 100000 in
theorem mapr_5ss (h : Px B w xa v P) {a n : Int} (ha : Fits a) (hn : Fits n) {p : Int} (hp : prB p = true) (hp0 : p ≠ 0) {o : Int} (ho : 0 < o) (hr : rtI a n 3 ≠ 0) : Calls Try.prog 38 #[.pointer (some ⟨xa, 0, none⟩), .int .i64 a, .int .i64 n, .int .i64 5, .int .i64 p, .int .i64 o] w (DidE B w xa P (mapP P a n 5 p o) (rtI a n 3)) := by
  have hri := fun w => refRight_any a n 3 ha.1 ha.2 hn.1 hn.2 w
  obtain ⟨er, her⟩ : ∃ er, er = rtI a n 3 := ⟨_, rfl⟩
  rw [← her] at hri hr ⊢
  have hpr := fun w => prot_is p w
  rw [hp] at hpr
  have hsz := fun w => size_is 5 w
  rw [show szO 5 = 8 by decide] at hsz
  have hsh := fun w => shared_is 5 w
  rw [show decide (shr 5) = true by decide] at hsh
  have p0 : (p == 0) = false := by simpa using hp0
  have ho1 : ¬ o < 0 := by omega
  have ho2 : decide (o < 0) = false := decide_eq_false ho1
  have ho3 : decide (0 < o) = true := decide_eq_true ho
  have h0' : (er != 0) = true := by simpa using hr
  have HN := Lib.hid (DidE.no (Q := mapP P a n 5 p o) hr h (Below.refl _ _))
  clear h ha hn her hr hp hp0
  go_enter Try.func38, Try.ntmps38
  go_wp2_with (first | (go_at_call 51; (with_reducible refine (hri _).mono ?_); rintro e w1 ⟨rfl, rfl⟩) | (go_at_call 49; (with_reducible refine (hpr _).mono ?_); rintro e w1 ⟨rfl, rfl⟩) | (go_at_call 50; (with_reducible refine (hsz _).mono ?_); rintro e w1 ⟨rfl, rfl⟩) | (go_at_call 13; (with_reducible refine (hsh _).mono ?_); rintro e w1 ⟨rfl, rfl⟩))
  go_ret
  exact HN.out
set_option maxRecDepth 100000 in
theorem mapr_6sz (h : Px B w xa v P) {a n : Int} (ha : Fits a) (hn : Fits n) {p : Int} (hp : prB p = true) (hp0 : p ≠ 0) (hr : rtI a n 3 ≠ 0) : Calls Try.prog 38 #[.pointer (some ⟨xa, 0, none⟩), .int .i64 a, .int .i64 n, .int .i64 6, .int .i64 p, .int .i64 0] w (DidE B w xa P (mapP P a n 6 p 0) (rtI a n 3)) := by
  have hri := fun w => refRight_any a n 3 ha.1 ha.2 hn.1 hn.2 w
  obtain ⟨er, her⟩ : ∃ er, er = rtI a n 3 := ⟨_, rfl⟩
  rw [← her] at hri hr ⊢
  have hpr := fun w => prot_is p w
  rw [hp] at hpr
  have hsz := fun w => size_is 6 w
  rw [show szO 6 = 8 by decide] at hsz
  have p0 : (p == 0) = false := by simpa using hp0
  have h0' : (er != 0) = true := by simpa using hr
  have HN := Lib.hid (DidE.no (Q := mapP P a n 6 p 0) hr h (Below.refl _ _))
  clear h ha hn her hr hp hp0
  go_enter Try.func38, Try.ntmps38
  go_wp2_with (first | (go_at_call 51; (with_reducible refine (hri _).mono ?_); rintro e w1 ⟨rfl, rfl⟩) | (go_at_call 49; (with_reducible refine (hpr _).mono ?_); rintro e w1 ⟨rfl, rfl⟩) | (go_at_call 50; (with_reducible refine (hsz _).mono ?_); rintro e w1 ⟨rfl, rfl⟩))
  go_ret
  exact HN.out
set_option maxRecDepth 100000 in
theorem mapa_lo (h : Px B w xa v P) {a n how p o : Int} (h1 : how < 1) : Calls Try.prog 38 #[.pointer (some ⟨xa, 0, none⟩), .int .i64 a, .int .i64 n, .int .i64 how, .int .i64 p, .int .i64 o] w (DidE B w xa P (mapP P a n how p o) 2) := by
  have HN := Lib.hid (DidE.no (er := 2) (Q := mapP P a n how p o) (by decide) h (Below.refl _ _))
  clear h
  have g2 : decide (how < 1) = true := decide_eq_true h1
  go_enter Try.func38, Try.ntmps38
  go_wp2
  go_ret
  exact HN.out
set_option maxRecDepth 100000 in
theorem mapa_hi (h : Px B w xa v P) {a n how p o : Int} (h1 : 6 < how) : Calls Try.prog 38 #[.pointer (some ⟨xa, 0, none⟩), .int .i64 a, .int .i64 n, .int .i64 how, .int .i64 p, .int .i64 o] w (DidE B w xa P (mapP P a n how p o) 2) := by
  have HN := Lib.hid (DidE.no (er := 2) (Q := mapP P a n how p o) (by decide) h (Below.refl _ _))
  clear h
  have g1 : ¬ how < 1 := by omega
  have g2 : decide (how < 1) = false := decide_eq_false g1
  have g4 : decide (6 < how) = true := decide_eq_true h1
  go_enter Try.func38, Try.ntmps38
  go_wp2
  go_ret
  exact HN.out
set_option maxRecDepth 100000 in
theorem mapa_pr (h : Px B w xa v P) {a n how p o : Int} (h1 : 1 ≤ how) (h6 : how ≤ 6) (hp : prB p = false) : Calls Try.prog 38 #[.pointer (some ⟨xa, 0, none⟩), .int .i64 a, .int .i64 n, .int .i64 how, .int .i64 p, .int .i64 o] w (DidE B w xa P (mapP P a n how p o) 2) := by
  have HN := Lib.hid (DidE.no (er := 2) (Q := mapP P a n how p o) (by decide) h (Below.refl _ _))
  clear h
  have g1 : ¬ how < 1 := by omega
  have g2 : decide (how < 1) = false := decide_eq_false g1
  have g3 : ¬ 6 < how := by omega
  have g4 : decide (6 < how) = false := decide_eq_false g3
  have hpr := fun w => prot_is p w
  rw [hp] at hpr
  clear hp
  go_enter Try.func38, Try.ntmps38
  go_wp2_with (go_at_call 49; (with_reducible refine (hpr _).mono ?_); rintro e w1 ⟨rfl, rfl⟩)
  go_ret
  exact HN.out
set_option maxRecDepth 100000 in
theorem mapa_sz (h : Px B w xa v P) {a n how p o : Int} (h1 : 1 ≤ how) (h6 : how ≤ 6) (hp : prB p = true) (hp0 : p = 0) (hs1 : 1 < szO how) : Calls Try.prog 38 #[.pointer (some ⟨xa, 0, none⟩), .int .i64 a, .int .i64 n, .int .i64 how, .int .i64 p, .int .i64 o] w (DidE B w xa P (mapP P a n how p o) 2) := by
  have HN := Lib.hid (DidE.no (er := 2) (Q := mapP P a n how p o) (by decide) h (Below.refl _ _))
  clear h
  have g1 : ¬ how < 1 := by omega
  have g2 : decide (how < 1) = false := decide_eq_false g1
  have g3 : ¬ 6 < how := by omega
  have g4 : decide (6 < how) = false := decide_eq_false g3
  have hpr := fun w => prot_is p w
  rw [hp] at hpr
  obtain ⟨s, hs⟩ : ∃ s, s = szO how := ⟨_, rfl⟩
  have hsz := fun w => size_is how w
  rw [← hs] at hsz hs1
  clear hs hp
  subst hp0
  have s2 : decide (1 < s) = true := decide_eq_true hs1
  go_enter Try.func38, Try.ntmps38
  go_wp2_with (first | (go_at_call 49; (with_reducible refine (hpr _).mono ?_); rintro e w1 ⟨rfl, rfl⟩) | (go_at_call 50; (with_reducible refine (hsz _).mono ?_); rintro e w1 ⟨rfl, rfl⟩))
  go_ret
  exact HN.out
set_option maxRecDepth 100000 in
theorem mapa_onz (h : Px B w xa v P) {a n how p o : Int} (h1 : 1 ≤ how) (h6 : how ≤ 6) (hp : prB p = true) (hp0 : p = 0) (hs1 : ¬ 1 < szO how) (ho : o < 0) : Calls Try.prog 38 #[.pointer (some ⟨xa, 0, none⟩), .int .i64 a, .int .i64 n, .int .i64 how, .int .i64 p, .int .i64 o] w (DidE B w xa P (mapP P a n how p o) 2) := by
  have HN := Lib.hid (DidE.no (er := 2) (Q := mapP P a n how p o) (by decide) h (Below.refl _ _))
  clear h
  have g1 : ¬ how < 1 := by omega
  have g2 : decide (how < 1) = false := decide_eq_false g1
  have g3 : ¬ 6 < how := by omega
  have g4 : decide (6 < how) = false := decide_eq_false g3
  have hpr := fun w => prot_is p w
  rw [hp] at hpr
  obtain ⟨s, hs⟩ : ∃ s, s = szO how := ⟨_, rfl⟩
  have hsz := fun w => size_is how w
  rw [← hs] at hsz hs1
  clear hs hp
  subst hp0
  have s2 : decide (1 < s) = false := decide_eq_false hs1
  have o2 : decide (o < 0) = true := decide_eq_true ho
  go_enter Try.func38, Try.ntmps38
  go_wp2_with (first | (go_at_call 49; (with_reducible refine (hpr _).mono ?_); rintro e w1 ⟨rfl, rfl⟩) | (go_at_call 50; (with_reducible refine (hsz _).mono ?_); rintro e w1 ⟨rfl, rfl⟩))
  go_ret
  exact HN.out
set_option maxRecDepth 100000 in
theorem mapa_osz (h : Px B w xa v P) {a n how p o : Int} (h1 : 1 ≤ how) (h6 : how ≤ 6) (hp : prB p = true) (hp0 : p = 0) (hs1 : ¬ 1 < szO how) (ho : 0 < o) (hsr : ¬ shr how) : Calls Try.prog 38 #[.pointer (some ⟨xa, 0, none⟩), .int .i64 a, .int .i64 n, .int .i64 how, .int .i64 p, .int .i64 o] w (DidE B w xa P (mapP P a n how p o) 2) := by
  have HN := Lib.hid (DidE.no (er := 2) (Q := mapP P a n how p o) (by decide) h (Below.refl _ _))
  clear h
  have g1 : ¬ how < 1 := by omega
  have g2 : decide (how < 1) = false := decide_eq_false g1
  have g3 : ¬ 6 < how := by omega
  have g4 : decide (6 < how) = false := decide_eq_false g3
  have hpr := fun w => prot_is p w
  rw [hp] at hpr
  obtain ⟨s, hs⟩ : ∃ s, s = szO how := ⟨_, rfl⟩
  have hsz := fun w => size_is how w
  rw [← hs] at hsz hs1
  clear hs hp
  subst hp0
  have s2 : decide (1 < s) = false := decide_eq_false hs1
  have o1 : ¬ o < 0 := by omega
  have o2 : decide (o < 0) = false := decide_eq_false o1
  have o3 : decide (0 < o) = true := decide_eq_true ho
  have hsh := fun w => shared_is how w
  rw [decide_eq_false hsr] at hsh
  clear hsr
  go_enter Try.func38, Try.ntmps38
  go_wp2_with (first | (go_at_call 49; (with_reducible refine (hpr _).mono ?_); rintro e w1 ⟨rfl, rfl⟩) | (go_at_call 50; (with_reducible refine (hsz _).mono ?_); rintro e w1 ⟨rfl, rfl⟩) | (go_at_call 13; (with_reducible refine (hsh _).mono ?_); rintro e w1 ⟨rfl, rfl⟩))
  go_ret
  exact HN.out
set_option maxRecDepth 100000 in
theorem mapa_ons (h : Px B w xa v P) {a n how p o : Int} (h1 : 1 ≤ how) (h6 : how ≤ 6) (hp : prB p = true) (hp0 : p ≠ 0) (ho : o < 0) : Calls Try.prog 38 #[.pointer (some ⟨xa, 0, none⟩), .int .i64 a, .int .i64 n, .int .i64 how, .int .i64 p, .int .i64 o] w (DidE B w xa P (mapP P a n how p o) 2) := by
  have HN := Lib.hid (DidE.no (er := 2) (Q := mapP P a n how p o) (by decide) h (Below.refl _ _))
  clear h
  have g1 : ¬ how < 1 := by omega
  have g2 : decide (how < 1) = false := decide_eq_false g1
  have g3 : ¬ 6 < how := by omega
  have g4 : decide (6 < how) = false := decide_eq_false g3
  have hpr := fun w => prot_is p w
  rw [hp] at hpr
  have p0 : (p == 0) = false := by simpa using hp0
  clear hp
  have o2 : decide (o < 0) = true := decide_eq_true ho
  go_enter Try.func38, Try.ntmps38
  go_wp2_with (go_at_call 49; (with_reducible refine (hpr _).mono ?_); rintro e w1 ⟨rfl, rfl⟩)
  go_ret
  exact HN.out
set_option maxRecDepth 100000 in
theorem mapa_oss (h : Px B w xa v P) {a n how p o : Int} (h1 : 1 ≤ how) (h6 : how ≤ 6) (hp : prB p = true) (hp0 : p ≠ 0) (ho : 0 < o) (hsr : ¬ shr how) : Calls Try.prog 38 #[.pointer (some ⟨xa, 0, none⟩), .int .i64 a, .int .i64 n, .int .i64 how, .int .i64 p, .int .i64 o] w (DidE B w xa P (mapP P a n how p o) 2) := by
  have HN := Lib.hid (DidE.no (er := 2) (Q := mapP P a n how p o) (by decide) h (Below.refl _ _))
  clear h
  have g1 : ¬ how < 1 := by omega
  have g2 : decide (how < 1) = false := decide_eq_false g1
  have g3 : ¬ 6 < how := by omega
  have g4 : decide (6 < how) = false := decide_eq_false g3
  have hpr := fun w => prot_is p w
  rw [hp] at hpr
  have p0 : (p == 0) = false := by simpa using hp0
  clear hp
  have o1 : ¬ o < 0 := by omega
  have o2 : decide (o < 0) = false := decide_eq_false o1
  have o3 : decide (0 < o) = true := decide_eq_true ho
  have hsh := fun w => shared_is how w
  rw [decide_eq_false hsr] at hsh
  clear hsr
  go_enter Try.func38, Try.ntmps38
  go_wp2_with (first | (go_at_call 49; (with_reducible refine (hpr _).mono ?_); rintro e w1 ⟨rfl, rfl⟩) | (go_at_call 13; (with_reducible refine (hsh _).mono ?_); rintro e w1 ⟨rfl, rfl⟩))
  go_ret
  exact HN.out
set_option maxRecDepth 100000 in
theorem map_is (h : Px B w xa v P) {a n how p o : Int} (ha : Fits a) (hn : Fits n) : Calls Try.prog 38 #[.pointer (some ⟨xa, 0, none⟩), .int .i64 a, .int .i64 n, .int .i64 how, .int .i64 p, .int .i64 o] w (DidE B w xa P (mapP P a n how p o) (mapE P a n how p o)) := by
  by_cases hA : mapA how p o = true
  · rw [show mapE P a n how p o = 2 by unfold mapE; rw [if_pos hA]]
    by_cases h1 : how < 1
    · exact mapa_lo h h1
    by_cases h6 : 6 < how
    · exact mapa_hi h h6
    by_cases hp : prB p = true
    · by_cases hz : p = 0
      · by_cases hs : 1 < szO how
        · exact mapa_sz h (by omega) (by omega) hp hz hs
        · by_cases ho : o < 0
          · exact mapa_onz h (by omega) (by omega) hp hz hs ho
          · unfold mapA at hA
            simp [h1, h6, hp, hs, ho] at hA
            exact mapa_osz h (by omega) (by omega) hp hz hs hA.1 hA.2
      · by_cases ho : o < 0
        · exact mapa_ons h (by omega) (by omega) hp hz ho
        · unfold mapA at hA
          simp [h1, h6, hp, hz, ho] at hA
          exact mapa_oss h (by omega) (by omega) hp hz hA.1 hA.2
    · exact mapa_pr h (by omega) (by omega) (by simpa using hp)
  · have hE : mapE P a n how p o = if rtI a n (ordO how) ≠ 0 then rtI a n (ordO how) else if usedB P a n.toNat = true then 7 else if fullB (mapP P a n how p o) = true then 13 else 0 := by unfold mapE; rw [if_neg hA]
    rw [hE]
    unfold mapA at hA
    simp only [Bool.or_eq_true, Bool.and_eq_true, Bool.not_eq_true', decide_eq_true_eq, decide_eq_false_iff_not, not_or, not_and, Bool.not_eq_false, Classical.not_not] at hA
    obtain ⟨⟨⟨⟨⟨h1, h6⟩, hp⟩, hs⟩, ho⟩, hsr⟩ := hA
    have hh : how = 1 ∨ how = 2 ∨ how = 3 ∨ how = 4 ∨ how = 5 ∨ how = 6 := by omega
    rcases hh with rfl | rfl | rfl | rfl | rfl | rfl
    · by_cases hz : p = 0
      · subst hz
        obtain rfl : o = 0 := by
          by_cases hpo : 0 < o
          · exact absurd (hsr hpo) (by decide)
          · omega
        rw [show ordO 1 = 0 by decide]
        by_cases hr : rtI a n 0 = 0
        · rw [if_neg (fun e => e hr)]
          obtain ⟨i1, i2, i3⟩ := rt_in hr
          obtain ⟨a, rfl⟩ : ∃ k : Nat, a = k := ⟨a.toNat, by omega⟩
          obtain ⟨n, rfl⟩ : ∃ k : Nat, n = k := ⟨n.toNat, by omega⟩
          exact map_1zz h hr ⟨by omega, by omega, by omega⟩
        · rw [if_pos hr]
          exact mapr_1zz h ha hn hr
      · skip
        obtain rfl : o = 0 := by
          by_cases hpo : 0 < o
          · exact absurd (hsr hpo) (by decide)
          · omega
        rw [show ordO 1 = 0 by decide]
        by_cases hr : rtI a n 0 = 0
        · rw [if_neg (fun e => e hr)]
          obtain ⟨i1, i2, i3⟩ := rt_in hr
          obtain ⟨a, rfl⟩ : ∃ k : Nat, a = k := ⟨a.toNat, by omega⟩
          obtain ⟨n, rfl⟩ : ∃ k : Nat, n = k := ⟨n.toNat, by omega⟩
          exact map_1sz h hp hz hr ⟨by omega, by omega, by omega⟩
        · rw [if_pos hr]
          exact mapr_1sz h ha hn hp hz hr
    · by_cases hz : p = 0
      · subst hz
        by_cases hpo : 0 < o
        · skip
          rw [show ordO 2 = 0 by decide]
          by_cases hr : rtI a n 0 = 0
          · rw [if_neg (fun e => e hr)]
            obtain ⟨i1, i2, i3⟩ := rt_in hr
            obtain ⟨a, rfl⟩ : ∃ k : Nat, a = k := ⟨a.toNat, by omega⟩
            obtain ⟨n, rfl⟩ : ∃ k : Nat, n = k := ⟨n.toNat, by omega⟩
            exact map_2zs h hpo hr ⟨by omega, by omega, by omega⟩
          · rw [if_pos hr]
            exact mapr_2zs h ha hn hpo hr
        · obtain rfl : o = 0 := by omega
          rw [show ordO 2 = 0 by decide]
          by_cases hr : rtI a n 0 = 0
          · rw [if_neg (fun e => e hr)]
            obtain ⟨i1, i2, i3⟩ := rt_in hr
            obtain ⟨a, rfl⟩ : ∃ k : Nat, a = k := ⟨a.toNat, by omega⟩
            obtain ⟨n, rfl⟩ : ∃ k : Nat, n = k := ⟨n.toNat, by omega⟩
            exact map_2zz h hr ⟨by omega, by omega, by omega⟩
          · rw [if_pos hr]
            exact mapr_2zz h ha hn hr
      · skip
        by_cases hpo : 0 < o
        · skip
          rw [show ordO 2 = 0 by decide]
          by_cases hr : rtI a n 0 = 0
          · rw [if_neg (fun e => e hr)]
            obtain ⟨i1, i2, i3⟩ := rt_in hr
            obtain ⟨a, rfl⟩ : ∃ k : Nat, a = k := ⟨a.toNat, by omega⟩
            obtain ⟨n, rfl⟩ : ∃ k : Nat, n = k := ⟨n.toNat, by omega⟩
            exact map_2ss h hp hz hpo hr ⟨by omega, by omega, by omega⟩
          · rw [if_pos hr]
            exact mapr_2ss h ha hn hp hz hpo hr
        · obtain rfl : o = 0 := by omega
          rw [show ordO 2 = 0 by decide]
          by_cases hr : rtI a n 0 = 0
          · rw [if_neg (fun e => e hr)]
            obtain ⟨i1, i2, i3⟩ := rt_in hr
            obtain ⟨a, rfl⟩ : ∃ k : Nat, a = k := ⟨a.toNat, by omega⟩
            obtain ⟨n, rfl⟩ : ∃ k : Nat, n = k := ⟨n.toNat, by omega⟩
            exact map_2sz h hp hz hr ⟨by omega, by omega, by omega⟩
          · rw [if_pos hr]
            exact mapr_2sz h ha hn hp hz hr
    · by_cases hz : p = 0
      · subst hz
        exact absurd (show 1 < szO 3 by decide) (hs rfl)
      · skip
        obtain rfl : o = 0 := by
          by_cases hpo : 0 < o
          · exact absurd (hsr hpo) (by decide)
          · omega
        rw [show ordO 3 = 3 by decide]
        by_cases hr : rtI a n 3 = 0
        · rw [if_neg (fun e => e hr)]
          obtain ⟨i1, i2, i3⟩ := rt_in hr
          obtain ⟨a, rfl⟩ : ∃ k : Nat, a = k := ⟨a.toNat, by omega⟩
          obtain ⟨n, rfl⟩ : ∃ k : Nat, n = k := ⟨n.toNat, by omega⟩
          exact map_3sz h hp hz hr ⟨by omega, by omega, by omega⟩
        · rw [if_pos hr]
          exact mapr_3sz h ha hn hp hz hr
    · by_cases hz : p = 0
      · subst hz
        exact absurd (show 1 < szO 4 by decide) (hs rfl)
      · skip
        obtain rfl : o = 0 := by
          by_cases hpo : 0 < o
          · exact absurd (hsr hpo) (by decide)
          · omega
        rw [show ordO 4 = 6 by decide]
        by_cases hr : rtI a n 6 = 0
        · rw [if_neg (fun e => e hr)]
          obtain ⟨i1, i2, i3⟩ := rt_in hr
          obtain ⟨a, rfl⟩ : ∃ k : Nat, a = k := ⟨a.toNat, by omega⟩
          obtain ⟨n, rfl⟩ : ∃ k : Nat, n = k := ⟨n.toNat, by omega⟩
          exact map_4sz h hp hz hr ⟨by omega, by omega, by omega⟩
        · rw [if_pos hr]
          exact mapr_4sz h ha hn hp hz hr
    · by_cases hz : p = 0
      · subst hz
        exact absurd (show 1 < szO 5 by decide) (hs rfl)
      · skip
        by_cases hpo : 0 < o
        · skip
          rw [show ordO 5 = 3 by decide]
          by_cases hr : rtI a n 3 = 0
          · rw [if_neg (fun e => e hr)]
            obtain ⟨i1, i2, i3⟩ := rt_in hr
            obtain ⟨a, rfl⟩ : ∃ k : Nat, a = k := ⟨a.toNat, by omega⟩
            obtain ⟨n, rfl⟩ : ∃ k : Nat, n = k := ⟨n.toNat, by omega⟩
            exact map_5ss h hp hz hpo hr ⟨by omega, by omega, by omega⟩
          · rw [if_pos hr]
            exact mapr_5ss h ha hn hp hz hpo hr
        · obtain rfl : o = 0 := by omega
          rw [show ordO 5 = 3 by decide]
          by_cases hr : rtI a n 3 = 0
          · rw [if_neg (fun e => e hr)]
            obtain ⟨i1, i2, i3⟩ := rt_in hr
            obtain ⟨a, rfl⟩ : ∃ k : Nat, a = k := ⟨a.toNat, by omega⟩
            obtain ⟨n, rfl⟩ : ∃ k : Nat, n = k := ⟨n.toNat, by omega⟩
            exact map_5sz h hp hz hr ⟨by omega, by omega, by omega⟩
          · rw [if_pos hr]
            exact mapr_5sz h ha hn hp hz hr
    · by_cases hz : p = 0
      · subst hz
        exact absurd (show 1 < szO 6 by decide) (hs rfl)
      · skip
        obtain rfl : o = 0 := by
          by_cases hpo : 0 < o
          · exact absurd (hsr hpo) (by decide)
          · omega
        rw [show ordO 6 = 3 by decide]
        by_cases hr : rtI a n 3 = 0
        · rw [if_neg (fun e => e hr)]
          obtain ⟨i1, i2, i3⟩ := rt_in hr
          obtain ⟨a, rfl⟩ : ∃ k : Nat, a = k := ⟨a.toNat, by omega⟩
          obtain ⟨n, rfl⟩ : ∃ k : Nat, n = k := ⟨n.toNat, by omega⟩
          exact map_6sz h hp hz hr ⟨by omega, by omega, by omega⟩
        · rw [if_pos hr]
          exact mapr_6sz h ha hn hp hz hr
end
end Go.Proofs.Ytodepfgfgphkbaa
