/- The reference's Map: its errors, the whole (gen/genW0.py). -/
import Derived.Test.YtnppnoabhpkmkaaGreatMg29
import Derived.StillTailTactics
namespace Go.Proofs.YtnppnoabhpkmkaaGreat
open Go.RowKit
section
variable {w w' : World} {B D xa xb : Nat} {v vb : Value} {P Q : Int → Pg}
set_option maxRecDepth 100000 in
theorem mapr_1zz (h : Px B w xa v P) {a n : Int} (ha : Fits a) (hn : Fits n) (hr : rtI a n 0 ≠ 0) : Calls Tryz.prog 54 #[.pointer (some ⟨xa, 0, none⟩), .int .i64 a, .int .i64 n, .int .i64 1, .int .i64 0, .int .i64 0] w (DidE B w xa P (mapP P a n 1 0 0) (rtI a n 0)) := by
  have hri := fun w => refRight_any a n 0 ha.1 ha.2 hn.1 hn.2 w
  obtain ⟨er, her⟩ : ∃ er, er = rtI a n 0 := ⟨_, rfl⟩
  rw [← her] at hri hr ⊢
  have hpr := fun w => prot_is 0 w
  rw [show prB 0 = true by decide] at hpr
  have hsz := fun w => size_is 1 w
  rw [show szO 1 = 1 by decide] at hsz
  have h0' : (er != 0) = true := by simpa using hr
  have HN := Lib.hid (DidE.no (Q := mapP P a n 1 0 0) hr h (Below.refl _ _))
  clear h ha hn her hr
  go_enter Tryz.func54, Tryz.ntmps54
  go_wp2_with (first | (go_at_call 58; (with_reducible refine (hri _).mono ?_); rintro e w1 ⟨rfl, rfl⟩) | (go_at_call 80; (with_reducible refine (hpr _).mono ?_); rintro e w1 ⟨rfl, rfl⟩) | (go_at_call 18; (with_reducible refine (hsz _).mono ?_); rintro e w1 ⟨rfl, rfl⟩))
  go_ret
  exact HN.out
set_option maxRecDepth 100000 in
theorem mapr_1sz (h : Px B w xa v P) {a n : Int} (ha : Fits a) (hn : Fits n) {p : Int} (hp : prB p = true) (hp0 : p ≠ 0) (hr : rtI a n 0 ≠ 0) : Calls Tryz.prog 54 #[.pointer (some ⟨xa, 0, none⟩), .int .i64 a, .int .i64 n, .int .i64 1, .int .i64 p, .int .i64 0] w (DidE B w xa P (mapP P a n 1 p 0) (rtI a n 0)) := by
  have hri := fun w => refRight_any a n 0 ha.1 ha.2 hn.1 hn.2 w
  obtain ⟨er, her⟩ : ∃ er, er = rtI a n 0 := ⟨_, rfl⟩
  rw [← her] at hri hr ⊢
  have hpr := fun w => prot_is p w
  rw [hp] at hpr
  have hsz := fun w => size_is 1 w
  rw [show szO 1 = 1 by decide] at hsz
  have p0 : (p == 0) = false := by simpa using hp0
  have h0' : (er != 0) = true := by simpa using hr
  have HN := Lib.hid (DidE.no (Q := mapP P a n 1 p 0) hr h (Below.refl _ _))
  clear h ha hn her hr hp hp0
  go_enter Tryz.func54, Tryz.ntmps54
  go_wp2_with (first | (go_at_call 58; (with_reducible refine (hri _).mono ?_); rintro e w1 ⟨rfl, rfl⟩) | (go_at_call 80; (with_reducible refine (hpr _).mono ?_); rintro e w1 ⟨rfl, rfl⟩) | (go_at_call 18; (with_reducible refine (hsz _).mono ?_); rintro e w1 ⟨rfl, rfl⟩))
  go_ret
  exact HN.out
set_option maxRecDepth 100000 in
theorem mapr_2zz (h : Px B w xa v P) {a n : Int} (ha : Fits a) (hn : Fits n) (hr : rtI a n 0 ≠ 0) : Calls Tryz.prog 54 #[.pointer (some ⟨xa, 0, none⟩), .int .i64 a, .int .i64 n, .int .i64 2, .int .i64 0, .int .i64 0] w (DidE B w xa P (mapP P a n 2 0 0) (rtI a n 0)) := by
  have hri := fun w => refRight_any a n 0 ha.1 ha.2 hn.1 hn.2 w
  obtain ⟨er, her⟩ : ∃ er, er = rtI a n 0 := ⟨_, rfl⟩
  rw [← her] at hri hr ⊢
  have hpr := fun w => prot_is 0 w
  rw [show prB 0 = true by decide] at hpr
  have hsz := fun w => size_is 2 w
  rw [show szO 2 = 1 by decide] at hsz
  have h0' : (er != 0) = true := by simpa using hr
  have HN := Lib.hid (DidE.no (Q := mapP P a n 2 0 0) hr h (Below.refl _ _))
  clear h ha hn her hr
  go_enter Tryz.func54, Tryz.ntmps54
  go_wp2_with (first | (go_at_call 58; (with_reducible refine (hri _).mono ?_); rintro e w1 ⟨rfl, rfl⟩) | (go_at_call 80; (with_reducible refine (hpr _).mono ?_); rintro e w1 ⟨rfl, rfl⟩) | (go_at_call 18; (with_reducible refine (hsz _).mono ?_); rintro e w1 ⟨rfl, rfl⟩))
  go_ret
  exact HN.out
set_option maxRecDepth 100000 in
theorem mapr_2zs (h : Px B w xa v P) {a n : Int} (ha : Fits a) (hn : Fits n) {o : Int} (ho : 0 < o) (hr : rtI a n 0 ≠ 0) : Calls Tryz.prog 54 #[.pointer (some ⟨xa, 0, none⟩), .int .i64 a, .int .i64 n, .int .i64 2, .int .i64 0, .int .i64 o] w (DidE B w xa P (mapP P a n 2 0 o) (rtI a n 0)) := by
  have hri := fun w => refRight_any a n 0 ha.1 ha.2 hn.1 hn.2 w
  obtain ⟨er, her⟩ : ∃ er, er = rtI a n 0 := ⟨_, rfl⟩
  rw [← her] at hri hr ⊢
  have hpr := fun w => prot_is 0 w
  rw [show prB 0 = true by decide] at hpr
  have hsz := fun w => size_is 2 w
  rw [show szO 2 = 1 by decide] at hsz
  have hsh := fun w => shared_is 2 w
  rw [show decide (shr 2) = true by decide] at hsh
  have ho1 : ¬ o < 0 := by omega
  have ho2 : decide (o < 0) = false := decide_eq_false ho1
  have ho3 : decide (0 < o) = true := decide_eq_true ho
  have h0' : (er != 0) = true := by simpa using hr
  have HN := Lib.hid (DidE.no (Q := mapP P a n 2 0 o) hr h (Below.refl _ _))
  clear h ha hn her hr
  go_enter Tryz.func54, Tryz.ntmps54
  go_wp2_with (first | (go_at_call 58; (with_reducible refine (hri _).mono ?_); rintro e w1 ⟨rfl, rfl⟩) | (go_at_call 80; (with_reducible refine (hpr _).mono ?_); rintro e w1 ⟨rfl, rfl⟩) | (go_at_call 18; (with_reducible refine (hsz _).mono ?_); rintro e w1 ⟨rfl, rfl⟩) | (go_at_call 15; (with_reducible refine (hsh _).mono ?_); rintro e w1 ⟨rfl, rfl⟩))
  go_ret
  exact HN.out
set_option maxRecDepth 100000 in
theorem mapr_2sz (h : Px B w xa v P) {a n : Int} (ha : Fits a) (hn : Fits n) {p : Int} (hp : prB p = true) (hp0 : p ≠ 0) (hr : rtI a n 0 ≠ 0) : Calls Tryz.prog 54 #[.pointer (some ⟨xa, 0, none⟩), .int .i64 a, .int .i64 n, .int .i64 2, .int .i64 p, .int .i64 0] w (DidE B w xa P (mapP P a n 2 p 0) (rtI a n 0)) := by
  have hri := fun w => refRight_any a n 0 ha.1 ha.2 hn.1 hn.2 w
  obtain ⟨er, her⟩ : ∃ er, er = rtI a n 0 := ⟨_, rfl⟩
  rw [← her] at hri hr ⊢
  have hpr := fun w => prot_is p w
  rw [hp] at hpr
  have hsz := fun w => size_is 2 w
  rw [show szO 2 = 1 by decide] at hsz
  have p0 : (p == 0) = false := by simpa using hp0
  have h0' : (er != 0) = true := by simpa using hr
  have HN := Lib.hid (DidE.no (Q := mapP P a n 2 p 0) hr h (Below.refl _ _))
  clear h ha hn her hr hp hp0
  go_enter Tryz.func54, Tryz.ntmps54
  go_wp2_with (first | (go_at_call 58; (with_reducible refine (hri _).mono ?_); rintro e w1 ⟨rfl, rfl⟩) | (go_at_call 80; (with_reducible refine (hpr _).mono ?_); rintro e w1 ⟨rfl, rfl⟩) | (go_at_call 18; (with_reducible refine (hsz _).mono ?_); rintro e w1 ⟨rfl, rfl⟩))
  go_ret
  exact HN.out
set_option maxRecDepth 100000 in
theorem mapr_2ss (h : Px B w xa v P) {a n : Int} (ha : Fits a) (hn : Fits n) {p : Int} (hp : prB p = true) (hp0 : p ≠ 0) {o : Int} (ho : 0 < o) (hr : rtI a n 0 ≠ 0) : Calls Tryz.prog 54 #[.pointer (some ⟨xa, 0, none⟩), .int .i64 a, .int .i64 n, .int .i64 2, .int .i64 p, .int .i64 o] w (DidE B w xa P (mapP P a n 2 p o) (rtI a n 0)) := by
  have hri := fun w => refRight_any a n 0 ha.1 ha.2 hn.1 hn.2 w
  obtain ⟨er, her⟩ : ∃ er, er = rtI a n 0 := ⟨_, rfl⟩
  rw [← her] at hri hr ⊢
  have hpr := fun w => prot_is p w
  rw [hp] at hpr
  have hsz := fun w => size_is 2 w
  rw [show szO 2 = 1 by decide] at hsz
  have hsh := fun w => shared_is 2 w
  rw [show decide (shr 2) = true by decide] at hsh
  have p0 : (p == 0) = false := by simpa using hp0
  have ho1 : ¬ o < 0 := by omega
  have ho2 : decide (o < 0) = false := decide_eq_false ho1
  have ho3 : decide (0 < o) = true := decide_eq_true ho
  have h0' : (er != 0) = true := by simpa using hr
  have HN := Lib.hid (DidE.no (Q := mapP P a n 2 p o) hr h (Below.refl _ _))
  clear h ha hn her hr hp hp0
  go_enter Tryz.func54, Tryz.ntmps54
  go_wp2_with (first | (go_at_call 58; (with_reducible refine (hri _).mono ?_); rintro e w1 ⟨rfl, rfl⟩) | (go_at_call 80; (with_reducible refine (hpr _).mono ?_); rintro e w1 ⟨rfl, rfl⟩) | (go_at_call 18; (with_reducible refine (hsz _).mono ?_); rintro e w1 ⟨rfl, rfl⟩) | (go_at_call 15; (with_reducible refine (hsh _).mono ?_); rintro e w1 ⟨rfl, rfl⟩))
  go_ret
  exact HN.out
set_option maxRecDepth 100000 in
theorem mapr_3sz (h : Px B w xa v P) {a n : Int} (ha : Fits a) (hn : Fits n) {p : Int} (hp : prB p = true) (hp0 : p ≠ 0) (hr : rtI a n 3 ≠ 0) : Calls Tryz.prog 54 #[.pointer (some ⟨xa, 0, none⟩), .int .i64 a, .int .i64 n, .int .i64 3, .int .i64 p, .int .i64 0] w (DidE B w xa P (mapP P a n 3 p 0) (rtI a n 3)) := by
  have hri := fun w => refRight_any a n 3 ha.1 ha.2 hn.1 hn.2 w
  obtain ⟨er, her⟩ : ∃ er, er = rtI a n 3 := ⟨_, rfl⟩
  rw [← her] at hri hr ⊢
  have hpr := fun w => prot_is p w
  rw [hp] at hpr
  have hsz := fun w => size_is 3 w
  rw [show szO 3 = 8 by decide] at hsz
  have p0 : (p == 0) = false := by simpa using hp0
  have h0' : (er != 0) = true := by simpa using hr
  have HN := Lib.hid (DidE.no (Q := mapP P a n 3 p 0) hr h (Below.refl _ _))
  clear h ha hn her hr hp hp0
  go_enter Tryz.func54, Tryz.ntmps54
  go_wp2_with (first | (go_at_call 58; (with_reducible refine (hri _).mono ?_); rintro e w1 ⟨rfl, rfl⟩) | (go_at_call 80; (with_reducible refine (hpr _).mono ?_); rintro e w1 ⟨rfl, rfl⟩) | (go_at_call 18; (with_reducible refine (hsz _).mono ?_); rintro e w1 ⟨rfl, rfl⟩))
  go_ret
  exact HN.out
set_option maxRecDepth 100000 in
theorem mapr_4sz (h : Px B w xa v P) {a n : Int} (ha : Fits a) (hn : Fits n) {p : Int} (hp : prB p = true) (hp0 : p ≠ 0) (hr : rtI a n 6 ≠ 0) : Calls Tryz.prog 54 #[.pointer (some ⟨xa, 0, none⟩), .int .i64 a, .int .i64 n, .int .i64 4, .int .i64 p, .int .i64 0] w (DidE B w xa P (mapP P a n 4 p 0) (rtI a n 6)) := by
  have hri := fun w => refRight_any a n 6 ha.1 ha.2 hn.1 hn.2 w
  obtain ⟨er, her⟩ : ∃ er, er = rtI a n 6 := ⟨_, rfl⟩
  rw [← her] at hri hr ⊢
  have hpr := fun w => prot_is p w
  rw [hp] at hpr
  have hsz := fun w => size_is 4 w
  rw [show szO 4 = 64 by decide] at hsz
  have p0 : (p == 0) = false := by simpa using hp0
  have h0' : (er != 0) = true := by simpa using hr
  have HN := Lib.hid (DidE.no (Q := mapP P a n 4 p 0) hr h (Below.refl _ _))
  clear h ha hn her hr hp hp0
  go_enter Tryz.func54, Tryz.ntmps54
  go_wp2_with (first | (go_at_call 58; (with_reducible refine (hri _).mono ?_); rintro e w1 ⟨rfl, rfl⟩) | (go_at_call 80; (with_reducible refine (hpr _).mono ?_); rintro e w1 ⟨rfl, rfl⟩) | (go_at_call 18; (with_reducible refine (hsz _).mono ?_); rintro e w1 ⟨rfl, rfl⟩))
  go_ret
  exact HN.out
set_option maxRecDepth 100000 in
theorem mapr_5sz (h : Px B w xa v P) {a n : Int} (ha : Fits a) (hn : Fits n) {p : Int} (hp : prB p = true) (hp0 : p ≠ 0) (hr : rtI a n 3 ≠ 0) : Calls Tryz.prog 54 #[.pointer (some ⟨xa, 0, none⟩), .int .i64 a, .int .i64 n, .int .i64 5, .int .i64 p, .int .i64 0] w (DidE B w xa P (mapP P a n 5 p 0) (rtI a n 3)) := by
  have hri := fun w => refRight_any a n 3 ha.1 ha.2 hn.1 hn.2 w
  obtain ⟨er, her⟩ : ∃ er, er = rtI a n 3 := ⟨_, rfl⟩
  rw [← her] at hri hr ⊢
  have hpr := fun w => prot_is p w
  rw [hp] at hpr
  have hsz := fun w => size_is 5 w
  rw [show szO 5 = 8 by decide] at hsz
  have p0 : (p == 0) = false := by simpa using hp0
  have h0' : (er != 0) = true := by simpa using hr
  have HN := Lib.hid (DidE.no (Q := mapP P a n 5 p 0) hr h (Below.refl _ _))
  clear h ha hn her hr hp hp0
  go_enter Tryz.func54, Tryz.ntmps54
  go_wp2_with (first | (go_at_call 58; (with_reducible refine (hri _).mono ?_); rintro e w1 ⟨rfl, rfl⟩) | (go_at_call 80; (with_reducible refine (hpr _).mono ?_); rintro e w1 ⟨rfl, rfl⟩) | (go_at_call 18; (with_reducible refine (hsz _).mono ?_); rintro e w1 ⟨rfl, rfl⟩))
  go_ret
  exact HN.out
set_option maxRecDepth 100000 in
theorem mapr_5ss (h : Px B w xa v P) {a n : Int} (ha : Fits a) (hn : Fits n) {p : Int} (hp : prB p = true) (hp0 : p ≠ 0) {o : Int} (ho : 0 < o) (hr : rtI a n 3 ≠ 0) : Calls Tryz.prog 54 #[.pointer (some ⟨xa, 0, none⟩), .int .i64 a, .int .i64 n, .int .i64 5, .int .i64 p, .int .i64 o] w (DidE B w xa P (mapP P a n 5 p o) (rtI a n 3)) := by
  have hri := fun w => refRight_any a n 3 ha.1 ha.2 hn.1 hn.2 w
  obtain ⟨er, her⟩ : ∃ er, er = rtI a n 3 := ⟨_, rfl⟩
  rw [← her] at hri hr ⊢
  have hpr := fun w => prot_is p w
  rw [hp] at hpr
  have hsz := fun w => size_is 5 w
  rw [show szO 5 = 8 by decide] at hsz
  have hsh := fun w => shared_is 5 w
  rw [show decide (shr 5) = true by decide] at hsh
  have p0 : (p == 0) = false := by simpa using hp0
  have ho1 : ¬ o < 0 := by omega
  have ho2 : decide (o < 0) = false := decide_eq_false ho1
  have ho3 : decide (0 < o) = true := decide_eq_true ho
  have h0' : (er != 0) = true := by simpa using hr
  have HN := Lib.hid (DidE.no (Q := mapP P a n 5 p o) hr h (Below.refl _ _))
  clear h ha hn her hr hp hp0
  go_enter Tryz.func54, Tryz.ntmps54
  go_wp2_with (first | (go_at_call 58; (with_reducible refine (hri _).mono ?_); rintro e w1 ⟨rfl, rfl⟩) | (go_at_call 80; (with_reducible refine (hpr _).mono ?_); rintro e w1 ⟨rfl, rfl⟩) | (go_at_call 18; (with_reducible refine (hsz _).mono ?_); rintro e w1 ⟨rfl, rfl⟩) | (go_at_call 15; (with_reducible refine (hsh _).mono ?_); rintro e w1 ⟨rfl, rfl⟩))
  go_ret
  exact HN.out
set_option maxRecDepth 100000 in
theorem mapr_6sz (h : Px B w xa v P) {a n : Int} (ha : Fits a) (hn : Fits n) {p : Int} (hp : prB p = true) (hp0 : p ≠ 0) (hr : rtI a n 3 ≠ 0) : Calls Tryz.prog 54 #[.pointer (some ⟨xa, 0, none⟩), .int .i64 a, .int .i64 n, .int .i64 6, .int .i64 p, .int .i64 0] w (DidE B w xa P (mapP P a n 6 p 0) (rtI a n 3)) := by
  have hri := fun w => refRight_any a n 3 ha.1 ha.2 hn.1 hn.2 w
  obtain ⟨er, her⟩ : ∃ er, er = rtI a n 3 := ⟨_, rfl⟩
  rw [← her] at hri hr ⊢
  have hpr := fun w => prot_is p w
  rw [hp] at hpr
  have hsz := fun w => size_is 6 w
  rw [show szO 6 = 8 by decide] at hsz
  have p0 : (p == 0) = false := by simpa using hp0
  have h0' : (er != 0) = true := by simpa using hr
  have HN := Lib.hid (DidE.no (Q := mapP P a n 6 p 0) hr h (Below.refl _ _))
  clear h ha hn her hr hp hp0
  go_enter Tryz.func54, Tryz.ntmps54
  go_wp2_with (first | (go_at_call 58; (with_reducible refine (hri _).mono ?_); rintro e w1 ⟨rfl, rfl⟩) | (go_at_call 80; (with_reducible refine (hpr _).mono ?_); rintro e w1 ⟨rfl, rfl⟩) | (go_at_call 18; (with_reducible refine (hsz _).mono ?_); rintro e w1 ⟨rfl, rfl⟩))
  go_ret
  exact HN.out
set_option maxRecDepth 100000 in
theorem mapa_lo (h : Px B w xa v P) {a n how p o : Int} (h1 : how < 1) : Calls Tryz.prog 54 #[.pointer (some ⟨xa, 0, none⟩), .int .i64 a, .int .i64 n, .int .i64 how, .int .i64 p, .int .i64 o] w (DidE B w xa P (mapP P a n how p o) 2) := by
  have HN := Lib.hid (DidE.no (er := 2) (Q := mapP P a n how p o) (by decide) h (Below.refl _ _))
  clear h
  have g2 : decide (how < 1) = true := decide_eq_true h1
  go_enter Tryz.func54, Tryz.ntmps54
  go_wp2
  go_ret
  exact HN.out
set_option maxRecDepth 100000 in
theorem mapa_hi (h : Px B w xa v P) {a n how p o : Int} (h1 : 6 < how) : Calls Tryz.prog 54 #[.pointer (some ⟨xa, 0, none⟩), .int .i64 a, .int .i64 n, .int .i64 how, .int .i64 p, .int .i64 o] w (DidE B w xa P (mapP P a n how p o) 2) := by
  have HN := Lib.hid (DidE.no (er := 2) (Q := mapP P a n how p o) (by decide) h (Below.refl _ _))
  clear h
  have g1 : ¬ how < 1 := by omega
  have g2 : decide (how < 1) = false := decide_eq_false g1
  have g4 : decide (6 < how) = true := decide_eq_true h1
  go_enter Tryz.func54, Tryz.ntmps54
  go_wp2
  go_ret
  exact HN.out
set_option maxRecDepth 100000 in
theorem mapa_pr (h : Px B w xa v P) {a n how p o : Int} (h1 : 1 ≤ how) (h6 : how ≤ 6) (hp : prB p = false) : Calls Tryz.prog 54 #[.pointer (some ⟨xa, 0, none⟩), .int .i64 a, .int .i64 n, .int .i64 how, .int .i64 p, .int .i64 o] w (DidE B w xa P (mapP P a n how p o) 2) := by
  have HN := Lib.hid (DidE.no (er := 2) (Q := mapP P a n how p o) (by decide) h (Below.refl _ _))
  clear h
  have g1 : ¬ how < 1 := by omega
  have g2 : decide (how < 1) = false := decide_eq_false g1
  have g3 : ¬ 6 < how := by omega
  have g4 : decide (6 < how) = false := decide_eq_false g3
  have hpr := fun w => prot_is p w
  rw [hp] at hpr
  clear hp
  go_enter Tryz.func54, Tryz.ntmps54
  go_wp2_with (go_at_call 80; (with_reducible refine (hpr _).mono ?_); rintro e w1 ⟨rfl, rfl⟩)
  go_ret
  exact HN.out
set_option maxRecDepth 100000 in
theorem mapa_sz (h : Px B w xa v P) {a n how p o : Int} (h1 : 1 ≤ how) (h6 : how ≤ 6) (hp : prB p = true) (hp0 : p = 0) (hs1 : 1 < szO how) : Calls Tryz.prog 54 #[.pointer (some ⟨xa, 0, none⟩), .int .i64 a, .int .i64 n, .int .i64 how, .int .i64 p, .int .i64 o] w (DidE B w xa P (mapP P a n how p o) 2) := by
  have HN := Lib.hid (DidE.no (er := 2) (Q := mapP P a n how p o) (by decide) h (Below.refl _ _))
  clear h
  have g1 : ¬ how < 1 := by omega
  have g2 : decide (how < 1) = false := decide_eq_false g1
  have g3 : ¬ 6 < how := by omega
  have g4 : decide (6 < how) = false := decide_eq_false g3
  have hpr := fun w => prot_is p w
  rw [hp] at hpr
  obtain ⟨s, hs⟩ : ∃ s, s = szO how := ⟨_, rfl⟩
  have hsz := fun w => size_is how w
  rw [← hs] at hsz hs1
  clear hs hp
  subst hp0
  have s2 : decide (1 < s) = true := decide_eq_true hs1
  go_enter Tryz.func54, Tryz.ntmps54
  go_wp2_with (first | (go_at_call 80; (with_reducible refine (hpr _).mono ?_); rintro e w1 ⟨rfl, rfl⟩) | (go_at_call 18; (with_reducible refine (hsz _).mono ?_); rintro e w1 ⟨rfl, rfl⟩))
  go_ret
  exact HN.out
set_option maxRecDepth 100000 in
theorem mapa_onz (h : Px B w xa v P) {a n how p o : Int} (h1 : 1 ≤ how) (h6 : how ≤ 6) (hp : prB p = true) (hp0 : p = 0) (hs1 : ¬ 1 < szO how) (ho : o < 0) : Calls Tryz.prog 54 #[.pointer (some ⟨xa, 0, none⟩), .int .i64 a, .int .i64 n, .int .i64 how, .int .i64 p, .int .i64 o] w (DidE B w xa P (mapP P a n how p o) 2) := by
  have HN := Lib.hid (DidE.no (er := 2) (Q := mapP P a n how p o) (by decide) h (Below.refl _ _))
  clear h
  have g1 : ¬ how < 1 := by omega
  have g2 : decide (how < 1) = false := decide_eq_false g1
  have g3 : ¬ 6 < how := by omega
  have g4 : decide (6 < how) = false := decide_eq_false g3
  have hpr := fun w => prot_is p w
  rw [hp] at hpr
  obtain ⟨s, hs⟩ : ∃ s, s = szO how := ⟨_, rfl⟩
  have hsz := fun w => size_is how w
  rw [← hs] at hsz hs1
  clear hs hp
  subst hp0
  have s2 : decide (1 < s) = false := decide_eq_false hs1
  have o2 : decide (o < 0) = true := decide_eq_true ho
  go_enter Tryz.func54, Tryz.ntmps54
  go_wp2_with (first | (go_at_call 80; (with_reducible refine (hpr _).mono ?_); rintro e w1 ⟨rfl, rfl⟩) | (go_at_call 18; (with_reducible refine (hsz _).mono ?_); rintro e w1 ⟨rfl, rfl⟩))
  go_ret
  exact HN.out
set_option maxRecDepth 100000 in
theorem mapa_osz (h : Px B w xa v P) {a n how p o : Int} (h1 : 1 ≤ how) (h6 : how ≤ 6) (hp : prB p = true) (hp0 : p = 0) (hs1 : ¬ 1 < szO how) (ho : 0 < o) (hsr : ¬ shr how) : Calls Tryz.prog 54 #[.pointer (some ⟨xa, 0, none⟩), .int .i64 a, .int .i64 n, .int .i64 how, .int .i64 p, .int .i64 o] w (DidE B w xa P (mapP P a n how p o) 2) := by
  have HN := Lib.hid (DidE.no (er := 2) (Q := mapP P a n how p o) (by decide) h (Below.refl _ _))
  clear h
  have g1 : ¬ how < 1 := by omega
  have g2 : decide (how < 1) = false := decide_eq_false g1
  have g3 : ¬ 6 < how := by omega
  have g4 : decide (6 < how) = false := decide_eq_false g3
  have hpr := fun w => prot_is p w
  rw [hp] at hpr
  obtain ⟨s, hs⟩ : ∃ s, s = szO how := ⟨_, rfl⟩
  have hsz := fun w => size_is how w
  rw [← hs] at hsz hs1
  clear hs hp
  subst hp0
  have s2 : decide (1 < s) = false := decide_eq_false hs1
  have o1 : ¬ o < 0 := by omega
  have o2 : decide (o < 0) = false := decide_eq_false o1
  have o3 : decide (0 < o) = true := decide_eq_true ho
  have hsh := fun w => shared_is how w
  rw [decide_eq_false hsr] at hsh
  clear hsr
  go_enter Tryz.func54, Tryz.ntmps54
  go_wp2_with (first | (go_at_call 80; (with_reducible refine (hpr _).mono ?_); rintro e w1 ⟨rfl, rfl⟩) | (go_at_call 18; (with_reducible refine (hsz _).mono ?_); rintro e w1 ⟨rfl, rfl⟩) | (go_at_call 15; (with_reducible refine (hsh _).mono ?_); rintro e w1 ⟨rfl, rfl⟩))
  go_ret
  exact HN.out
set_option maxRecDepth 100000 in
theorem mapa_ons (h : Px B w xa v P) {a n how p o : Int} (h1 : 1 ≤ how) (h6 : how ≤ 6) (hp : prB p = true) (hp0 : p ≠ 0) (ho : o < 0) : Calls Tryz.prog 54 #[.pointer (some ⟨xa, 0, none⟩), .int .i64 a, .int .i64 n, .int .i64 how, .int .i64 p, .int .i64 o] w (DidE B w xa P (mapP P a n how p o) 2) := by
  have HN := Lib.hid (DidE.no (er := 2) (Q := mapP P a n how p o) (by decide) h (Below.refl _ _))
  clear h
  have g1 : ¬ how < 1 := by omega
  have g2 : decide (how < 1) = false := decide_eq_false g1
  have g3 : ¬ 6 < how := by omega
  have g4 : decide (6 < how) = false := decide_eq_false g3
  have hpr := fun w => prot_is p w
  rw [hp] at hpr
  have p0 : (p == 0) = false := by simpa using hp0
  clear hp
  have o2 : decide (o < 0) = true := decide_eq_true ho
  go_enter Tryz.func54, Tryz.ntmps54
  go_wp2_with (go_at_call 80; (with_reducible refine (hpr _).mono ?_); rintro e w1 ⟨rfl, rfl⟩)
  go_ret
  exact HN.out
set_option maxRecDepth 100000 in
theorem mapa_oss (h : Px B w xa v P) {a n how p o : Int} (h1 : 1 ≤ how) (h6 : how ≤ 6) (hp : prB p = true) (hp0 : p ≠ 0) (ho : 0 < o) (hsr : ¬ shr how) : Calls Tryz.prog 54 #[.pointer (some ⟨xa, 0, none⟩), .int .i64 a, .int .i64 n, .int .i64 how, .int .i64 p, .int .i64 o] w (DidE B w xa P (mapP P a n how p o) 2) := by
  have HN := Lib.hid (DidE.no (er := 2) (Q := mapP P a n how p o) (by decide) h (Below.refl _ _))
  clear h
  have g1 : ¬ how < 1 := by omega
  have g2 : decide (how < 1) = false := decide_eq_false g1
  have g3 : ¬ 6 < how := by omega
  have g4 : decide (6 < how) = false := decide_eq_false g3
  have hpr := fun w => prot_is p w
  rw [hp] at hpr
  have p0 : (p == 0) = false := by simpa using hp0
  clear hp
  have o1 : ¬ o < 0 := by omega
  have o2 : decide (o < 0) = false := decide_eq_false o1
  have o3 : decide (0 < o) = true := decide_eq_true ho
  have hsh := fun w => shared_is how w
  rw [decide_eq_false hsr] at hsh
  clear hsr
  go_enter Tryz.func54, Tryz.ntmps54
  go_wp2_with (first | (go_at_call 80; (with_reducible refine (hpr _).mono ?_); rintro e w1 ⟨rfl, rfl⟩) | (go_at_call 15; (with_reducible refine (hsh _).mono ?_); rintro e w1 ⟨rfl, rfl⟩))
  go_ret
  exact HN.out
set_option maxRecDepth 100000 in
theorem map_is (h : Px B w xa v P) {a n how p o : Int} (ha : Fits a) (hn : Fits n) : Calls Tryz.prog 54 #[.pointer (some ⟨xa, 0, none⟩), .int .i64 a, .int .i64 n, .int .i64 how, .int .i64 p, .int .i64 o] w (DidE B w xa P (mapP P a n how p o) (mapE P a n how p o)) := by
  by_cases hA : mapA how p o = true
  · rw [show mapE P a n how p o = 2 by unfold mapE; rw [if_pos hA]]
    by_cases h1 : how < 1
    · exact mapa_lo h h1
    by_cases h6 : 6 < how
    · exact mapa_hi h h6
    by_cases hp : prB p = true
    · by_cases hz : p = 0
      · by_cases hs : 1 < szO how
        · exact mapa_sz h (by omega) (by omega) hp hz hs
        · by_cases ho : o < 0
          · exact mapa_onz h (by omega) (by omega) hp hz hs ho
          · unfold mapA at hA
            simp [h1, h6, hp, hs, ho] at hA
            exact mapa_osz h (by omega) (by omega) hp hz hs hA.1 hA.2
      · by_cases ho : o < 0
        · exact mapa_ons h (by omega) (by omega) hp hz ho
        · unfold mapA at hA
          simp [h1, h6, hp, hz, ho] at hA
          exact mapa_oss h (by omega) (by omega) hp hz hA.1 hA.2
    · exact mapa_pr h (by omega) (by omega) (by simpa using hp)
  · have hE : mapE P a n how p o = if rtI a n (ordO how) ≠ 0 then rtI a n (ordO how) else if usedB P a n.toNat = true then 7 else if fullB (mapP P a n how p o) = true then 13 else 0 := by unfold mapE; rw [if_neg hA]
    rw [hE]
    unfold mapA at hA
    simp only [Bool.or_eq_true, Bool.and_eq_true, Bool.not_eq_true', decide_eq_true_eq, decide_eq_false_iff_not, not_or, not_and, Bool.not_eq_false, Classical.not_not] at hA
    obtain ⟨⟨⟨⟨⟨h1, h6⟩, hp⟩, hs⟩, ho⟩, hsr⟩ := hA
    have hh : how = 1 ∨ how = 2 ∨ how = 3 ∨ how = 4 ∨ how = 5 ∨ how = 6 := by omega
    rcases hh with rfl | rfl | rfl | rfl | rfl | rfl
    · by_cases hz : p = 0
      · subst hz
        obtain rfl : o = 0 := by
          by_cases hpo : 0 < o
          · exact absurd (hsr hpo) (by decide)
          · omega
        rw [show ordO 1 = 0 by decide]
        by_cases hr : rtI a n 0 = 0
        · rw [if_neg (fun e => e hr)]
          obtain ⟨i1, i2, i3⟩ := rt_in hr
          obtain ⟨a, rfl⟩ : ∃ k : Nat, a = k := ⟨a.toNat, by omega⟩
          obtain ⟨n, rfl⟩ : ∃ k : Nat, n = k := ⟨n.toNat, by omega⟩
          exact map_1zz h hr ⟨by omega, by omega, by omega⟩
        · rw [if_pos hr]
          exact mapr_1zz h ha hn hr
      · skip
        obtain rfl : o = 0 := by
          by_cases hpo : 0 < o
          · exact absurd (hsr hpo) (by decide)
          · omega
        rw [show ordO 1 = 0 by decide]
        by_cases hr : rtI a n 0 = 0
        · rw [if_neg (fun e => e hr)]
          obtain ⟨i1, i2, i3⟩ := rt_in hr
          obtain ⟨a, rfl⟩ : ∃ k : Nat, a = k := ⟨a.toNat, by omega⟩
          obtain ⟨n, rfl⟩ : ∃ k : Nat, n = k := ⟨n.toNat, by omega⟩
          exact map_1sz h hp hz hr ⟨by omega, by omega, by omega⟩
        · rw [if_pos hr]
          exact mapr_1sz h ha hn hp hz hr
    · by_cases hz : p = 0
      · subst hz
        by_cases hpo : 0 < o
        · skip
          rw [show ordO 2 = 0 by decide]
          by_cases hr : rtI a n 0 = 0
          · rw [if_neg (fun e => e hr)]
            obtain ⟨i1, i2, i3⟩ := rt_in hr
            obtain ⟨a, rfl⟩ : ∃ k : Nat, a = k := ⟨a.toNat, by omega⟩
            obtain ⟨n, rfl⟩ : ∃ k : Nat, n = k := ⟨n.toNat, by omega⟩
            exact map_2zs h hpo hr ⟨by omega, by omega, by omega⟩
          · rw [if_pos hr]
            exact mapr_2zs h ha hn hpo hr
        · obtain rfl : o = 0 := by omega
          rw [show ordO 2 = 0 by decide]
          by_cases hr : rtI a n 0 = 0
          · rw [if_neg (fun e => e hr)]
            obtain ⟨i1, i2, i3⟩ := rt_in hr
            obtain ⟨a, rfl⟩ : ∃ k : Nat, a = k := ⟨a.toNat, by omega⟩
            obtain ⟨n, rfl⟩ : ∃ k : Nat, n = k := ⟨n.toNat, by omega⟩
            exact map_2zz h hr ⟨by omega, by omega, by omega⟩
          · rw [if_pos hr]
            exact mapr_2zz h ha hn hr
      · skip
        by_cases hpo : 0 < o
        · skip
          rw [show ordO 2 = 0 by decide]
          by_cases hr : rtI a n 0 = 0
          · rw [if_neg (fun e => e hr)]
            obtain ⟨i1, i2, i3⟩ := rt_in hr
            obtain ⟨a, rfl⟩ : ∃ k : Nat, a = k := ⟨a.toNat, by omega⟩
            obtain ⟨n, rfl⟩ : ∃ k : Nat, n = k := ⟨n.toNat, by omega⟩
            exact map_2ss h hp hz hpo hr ⟨by omega, by omega, by omega⟩
          · rw [if_pos hr]
            exact mapr_2ss h ha hn hp hz hpo hr
        · obtain rfl : o = 0 := by omega
          rw [show ordO 2 = 0 by decide]
          by_cases hr : rtI a n 0 = 0
          · rw [if_neg (fun e => e hr)]
            obtain ⟨i1, i2, i3⟩ := rt_in hr
            obtain ⟨a, rfl⟩ : ∃ k : Nat, a = k := ⟨a.toNat, by omega⟩
            obtain ⟨n, rfl⟩ : ∃ k : Nat, n = k := ⟨n.toNat, by omega⟩
            exact map_2sz h hp hz hr ⟨by omega, by omega, by omega⟩
          · rw [if_pos hr]
            exact mapr_2sz h ha hn hp hz hr
    · by_cases hz : p = 0
      · subst hz
        exact absurd (show 1 < szO 3 by decide) (hs rfl)
      · skip
        obtain rfl : o = 0 := by
          by_cases hpo : 0 < o
          · exact absurd (hsr hpo) (by decide)
          · omega
        rw [show ordO 3 = 3 by decide]
        by_cases hr : rtI a n 3 = 0
        · rw [if_neg (fun e => e hr)]
          obtain ⟨i1, i2, i3⟩ := rt_in hr
          obtain ⟨a, rfl⟩ : ∃ k : Nat, a = k := ⟨a.toNat, by omega⟩
          obtain ⟨n, rfl⟩ : ∃ k : Nat, n = k := ⟨n.toNat, by omega⟩
          exact map_3sz h hp hz hr ⟨by omega, by omega, by omega⟩
        · rw [if_pos hr]
          exact mapr_3sz h ha hn hp hz hr
    · by_cases hz : p = 0
      · subst hz
        exact absurd (show 1 < szO 4 by decide) (hs rfl)
      · skip
        obtain rfl : o = 0 := by
          by_cases hpo : 0 < o
          · exact absurd (hsr hpo) (by decide)
          · omega
        rw [show ordO 4 = 6 by decide]
        by_cases hr : rtI a n 6 = 0
        · rw [if_neg (fun e => e hr)]
          obtain ⟨i1, i2, i3⟩ := rt_in hr
          obtain ⟨a, rfl⟩ : ∃ k : Nat, a = k := ⟨a.toNat, by omega⟩
          obtain ⟨n, rfl⟩ : ∃ k : Nat, n = k := ⟨n.toNat, by omega⟩
          exact map_4sz h hp hz hr ⟨by omega, by omega, by omega⟩
        · rw [if_pos hr]
          exact mapr_4sz h ha hn hp hz hr
    · by_cases hz : p = 0
      · subst hz
        exact absurd (show 1 < szO 5 by decide) (hs rfl)
      · skip
        by_cases hpo : 0 < o
        · skip
          rw [show ordO 5 = 3 by decide]
          by_cases hr : rtI a n 3 = 0
          · rw [if_neg (fun e => e hr)]
            obtain ⟨i1, i2, i3⟩ := rt_in hr
            obtain ⟨a, rfl⟩ : ∃ k : Nat, a = k := ⟨a.toNat, by omega⟩
            obtain ⟨n, rfl⟩ : ∃ k : Nat, n = k := ⟨n.toNat, by omega⟩
            exact map_5ss h hp hz hpo hr ⟨by omega, by omega, by omega⟩
          · rw [if_pos hr]
            exact mapr_5ss h ha hn hp hz hpo hr
        · obtain rfl : o = 0 := by omega
          rw [show ordO 5 = 3 by decide]
          by_cases hr : rtI a n 3 = 0
          · rw [if_neg (fun e => e hr)]
            obtain ⟨i1, i2, i3⟩ := rt_in hr
            obtain ⟨a, rfl⟩ : ∃ k : Nat, a = k := ⟨a.toNat, by omega⟩
            obtain ⟨n, rfl⟩ : ∃ k : Nat, n = k := ⟨n.toNat, by omega⟩
            exact map_5sz h hp hz hr ⟨by omega, by omega, by omega⟩
          · rw [if_pos hr]
            exact mapr_5sz h ha hn hp hz hr
    · by_cases hz : p = 0
      · subst hz
        exact absurd (show 1 < szO 6 by decide) (hs rfl)
      · skip
        obtain rfl : o = 0 := by
          by_cases hpo : 0 < o
          · exact absurd (hsr hpo) (by decide)
          · omega
        rw [show ordO 6 = 3 by decide]
        by_cases hr : rtI a n 3 = 0
        · rw [if_neg (fun e => e hr)]
          obtain ⟨i1, i2, i3⟩ := rt_in hr
          obtain ⟨a, rfl⟩ : ∃ k : Nat, a = k := ⟨a.toNat, by omega⟩
          obtain ⟨n, rfl⟩ : ∃ k : Nat, n = k := ⟨n.toNat, by omega⟩
          exact map_6sz h hp hz hr ⟨by omega, by omega, by omega⟩
        · rw [if_pos hr]
          exact mapr_6sz h ha hn hp hz hr
end
end Go.Proofs.YtnppnoabhpkmkaaGreat
/- The reference's Move, its good ways (gen/genW1.py). -/
namespace Go.Proofs.YtnppnoabhpkmkaaGreat
open Go.RowKit
section
variable {w w' : World} {B D xa xb : Nat} {v vb : Value} {P Q : Int → Pg}
theorem mvP_zero (P : Int → Pg) (a t : Int) : mvP P a 0 t = P := by
  funext i; unfold mvP
  have q1 : ¬ inS t 0 i := by unfold inS; omega
  have q2 : ¬ inS a 0 i := by unfold inS; omega
  rw [if_neg q1, if_neg q2]
theorem mvP_succ (P : Int → Pg) {a t : Int} {j : Nat} (hd : t + (j + 1) ≤ a ∨ a + (j + 1) ≤ t) (i : Int) : (if i = a + j then zP else if i = t + j then P (a + j) else mvP P a j t i) = mvP P a ((j : Int) + 1) t i := by
  unfold mvP
  by_cases e : i = a + j
  · have q1 : ¬ inS t ((j : Int) + 1) i := by unfold inS; omega
    have q2 : inS a ((j : Int) + 1) i := by unfold inS; omega
    rw [if_pos e, if_neg q1, if_pos q2]
  · rw [if_neg e]
    by_cases e1 : i = t + j
    · have q1 : inS t ((j : Int) + 1) i := by unfold inS; omega
      rw [if_pos e1, if_pos q1, show i - t + a = a + j by omega]
    · rw [if_neg e1]
      by_cases e2 : inS t j i
      · have q1 : inS t ((j : Int) + 1) i := by unfold inS at *; omega
        rw [if_pos e2, if_pos q1]
      · have q1 : ¬ inS t ((j : Int) + 1) i := by unfold inS at *; omega
        rw [if_neg e2, if_neg q1]
        by_cases e3 : inS a j i
        · have q2 : inS a ((j : Int) + 1) i := by unfold inS at *; omega
          rw [if_pos e3, if_pos q2]
        · have q2 : ¬ inS a ((j : Int) + 1) i := by unfold inS at *; omega
          rw [if_neg e3, if_neg q2]
set_option maxRecDepth 100000 in
set_option maxHeartbeats 4000000 in
theorem move_up (h : Px B w xa v P) {a n t : Nat} (hr : rtI a n 0 = 0) (hr2 : rtI t n 0 = 0) (hdis : a + n ≤ t) (hco : covB P a n = true) : Calls Tryz.prog 61 #[.pointer (some ⟨xa, 0, none⟩), .int .i64 a, .int .i64 n, .int .i64 t] w (ToldP B w xa P (mvP P a n t) (if hugeB P a n = true then 2 else if usedB P t n = true then 7 else if fullB (mvP P a n t) = true then 13 else 0) (pcs P a n)) := by
  obtain ⟨h1, h2, h3⟩ := rt_in hr
  obtain ⟨h4, _, h6⟩ := rt_in hr2
  have hri := fun w => right_is (a := a) (n := n) ⟨by omega, by omega⟩ ⟨by omega, by omega⟩ w
  have hri2 := fun w => right_is (a := t) (n := n) ⟨by omega, by omega⟩ ⟨by omega, by omega⟩ w
  rw [hr] at hri
  rw [hr2] at hri2
  have hcv := covers_is h (a := a) (n := n) hr (by omega)
  rw [hco] at hcv
  have HR := Lib.hid (And.intro h1 (And.intro h2 (And.intro h3 (And.intro h4 (And.intro h6 hdis)))))
  have HP := Lib.hid h
  have n4 : (n : Int) ≤ 4096 := by omega
  have a4 : (a : Int) ≤ 4096 := by omega
  have t4 : (t : Int) ≤ 4096 := by omega
  have d1 : ¬ (t : Int) < (a : Int) + n := by omega
  have d2 : decide ((t : Int) < (a : Int) + n) = false := decide_eq_false d1
  have hcp := copied_is h
  obtain ⟨er, her⟩ : ∃ er : Int, er = if hugeB P a n = true then 2 else if usedB P t n = true then 7 else if fullB (mvP P a n t) = true then 13 else 0 := ⟨_, rfl⟩
  rw [← her]
  have HER := Lib.hid her
  clear h hr hr2 hco h1 h2 h3 h4 h6 her hdis
  go_enter Tryz.func61, Tryz.ntmps61
  go_wp2_with (first | (go_at_call 82; first | ((with_reducible refine (hri _).mono ?_); rintro e w1 ⟨rfl, rfl⟩) | ((with_reducible refine (hri2 _).mono ?_); rintro e w1 ⟨rfl, rfl⟩)) | (go_at_call 59; (with_reducible refine hcv.mono ?_); rintro e w1 ⟨rfl, rfl⟩))
  refine hcp.mono ?_
  rintro e w2 ⟨xb, vb, rfl, hx2, hb2⟩
  obtain ⟨g, c, rfl, hgD, -, -⟩ := hx2.form
  have HG := Lib.hid hgD
  have hB0 : Bx w.heap.size w2 xb (.slice (some ⟨g, 0, none⟩) 4096 c) (mvP P a 0 t) := by rw [mvP_zero]; exact hx2.bx
  have HX := Lib.hid hB0
  have HB2 := Lib.hid hb2
  clear hcp hb2 hx2 hB0 hgD hri hri2 hcv
  go_wp2_with fail
  go_loopw [12, 13] (fun fl i wr => ∃ j : Nat, j ≤ n ∧ fl = .bool (usedB P t j) ∧ i = .int .i64 j ∧ Bx w.heap.size wr xb (.slice (some ⟨g, 0, none⟩) 4096 c) (mvP P a j t) ∧ Below w.heap.size w wr ∧ hugeB P a j = false) (fun _ i _ => n - (RowKit.intOf i).toNat)
  case atStart => exact ⟨0, Nat.zero_le _, rfl, rfl, HX.out, HB2.out, rfl⟩
  case round =>
    obtain ⟨j, hj, rfl, rfl, hx, hb, hh⟩ := hrel
    have HBX := Lib.hid hx
    have HBB := Lib.hid hb
    have HHU := Lib.hid hh
    obtain ⟨fl, hfl⟩ : ∃ fl, fl = usedB P t j := ⟨_, rfl⟩
    rw [← hfl]
    have HFL := Lib.hid hfl
    clear hfl
    by_cases hlt : j < n
    · obtain ⟨q, hq⟩ : ∃ q : Nat, q = a + j := ⟨_, rfl⟩
      obtain ⟨r, hrr⟩ : ∃ r : Nat, r = t + j := ⟨_, rfl⟩
      have HQ := Lib.hid (And.intro hq hrr)
      have hjn : (j : Int) < n := by omega
      have hqe : (a : Int) + j = (q : Int) := by omega
      have hre : (t : Int) + j = (r : Int) := by omega
      have hq0 : (0 : Int) ≤ q := by omega
      have hr0 : (0 : Int) ≤ r := by omega
      have hq4 : (q : Int) < 4096 := by have := HR.out; omega
      have hr4 : (r : Int) < 4096 := by have := HR.out; omega
      have hb1 : Below w.heap.size w wr.drew := below_dN hb 1
      have hx1 : Bx w.heap.size wr.drew xb (.slice (some ⟨g, 0, none⟩) 4096 c) (mvP P a j t) := hx.drewN 1
      obtain ⟨gp, cp, hv, -, -, hat⟩ := (HP.out.call hb).form
      have ca := (HP.out.call hb).c0
      have ca1 := (HP.out.call hb1).c0
      rw [hv] at ca ca1
      have cq := pg_at (hat q (by have := HR.out; omega))
      have cr := (pg_at (hat r (by have := HR.out; omega))).1
      obtain ⟨pq, hpq⟩ : ∃ z, z = P q := ⟨_, rfl⟩
      rw [← hpq] at cq
      obtain ⟨qh, qp, qo, qx⟩ := pq
      dsimp only at cq
      obtain ⟨a0, a1, a2, a3⟩ := cq
      have b0 : wr.drew.cell? ⟨gp, q * 4, none⟩ = some (.int .i64 qh) := a0
      have b1 : wr.drew.cell? ⟨gp, q * 4 + 1, none⟩ = some (.int .i64 qp) := a1
      have b2 : wr.drew.cell? ⟨gp, q * 4 + 2, none⟩ = some (.int .i64 qo) := a2
      have b3 : wr.drew.cell? ⟨gp, q * 4 + 3, none⟩ = some (.int .i64 qx) := a3
      change wr.drew.cell? _ = _ at ca1
      obtain ⟨rh, hrh⟩ : ∃ z, z = (P r).h := ⟨_, rfl⟩
      rw [← hrh] at cr
      obtain ⟨s, hs⟩ : ∃ s, s = szO qh := ⟨_, rfl⟩
      have hsz := fun w => size_is qh w
      rw [← hs] at hsz
      have HSQ : Hid (hugeB P a (j + 1) = decide (1 < s)) := by
        show _ = _
        unfold hugeB at hh ⊢
        rw [anyB_succ, hh, Bool.false_or, hs, hqe, ← hpq]
      have HUS : Hid (usedB P t (j + 1) = (fl || decide (rh ≠ 0))) := by
        show _ = _
        have e := HFL.out
        unfold usedB at e ⊢
        rw [anyB_succ, ← e, hrh, hre]
      have HPQ := Lib.hid hpq
      have c0 := hx1.c0
      obtain ⟨hpg, ⟨u0, k0⟩, f0, ⟨u1, k1⟩, f1, ⟨u2, k2⟩, f2, ⟨u3, k3⟩, f3⟩ := hx1.page rfl (i := r) (by have := HR.out; omega) qh qp qo qx
      have c1 := hpg.c0
      obtain ⟨hpg2, ⟨u4, k4⟩, f4, ⟨u5, k5⟩, f5, ⟨u6, k6⟩, f6, ⟨u7, k7⟩, f7⟩ := hpg.page rfl (i := q) (by have := HR.out; omega) 0 0 0 0
      have HPG := Lib.hid hpg2
      have HBE := Lib.hid (below_set (below_set (below_set (below_set (below_set (below_set (below_set (below_set hb1 HG.out (r * 4) (.int .i64 qh)) HG.out (r * 4 + 1) (.int .i64 qp)) HG.out (r * 4 + 2) (.int .i64 qo)) HG.out (r * 4 + 3) (.int .i64 qx)) HG.out (q * 4) (.int .i64 0)) HG.out (q * 4 + 1) (.int .i64 0)) HG.out (q * 4 + 2) (.int .i64 0)) HG.out (q * 4 + 3) (.int .i64 0))
      change wr.drew.cell? _ = _ at c0
      clear hx hb hx1 hb1 hpg hpg2 hq hrr hat hv hh hpq hs hrh
      by_cases hbig : 1 < s
      · have HE2 : Hid (er = 2) := by
          show _ = _
          rw [HER.out, if_pos]
          have h1 := HSQ.out
          rw [decide_eq_true hbig] at h1
          unfold hugeB at h1 ⊢
          rw [anyB_true] at h1 ⊢
          obtain ⟨k, hk, h⟩ := h1
          exact ⟨k, by omega, h⟩
        clear k0 f0 k1 f1 k2 f2 k3 f3 k4 f4 k5 f5 k6 f6 k7 f7
        go_wp2_with (go_at_call 18; (with_reducible refine (hsz _).mono ?_); rintro e w1 ⟨rfl, rfl⟩)
        go_ret2
        rw [HE2.out]
        exact ToldP.no (by decide) HP.out HBB.out
      · have HHS : Hid (hugeB P a (j + 1) = false) := by
          show _ = _
          rw [HSQ.out, decide_eq_false hbig]
        have hbg2 : decide (1 < s) = false := decide_eq_false hbig
        have HREL : Hid (∀ wx, wx = _ → Bx w.heap.size wx xb (.slice (some ⟨g, 0, none⟩) 4096 c) (mvP P a ((j + 1 : Nat) : Int) t)) := fun wx e => e ▸ (HPG.out.congr fun i _ => by
          rw [show (((j + 1 : Nat) : Int)) = (j : Int) + 1 by omega, ← mvP_succ P (by have := HR.out; omega), show (q : Int) = (a : Int) + j by have := HQ.out; omega, show (r : Int) = (t : Int) + j by have := HQ.out; omega, show (⟨qh, qp, qo, qx⟩ : Pg) = P ((a : Int) + j) by rw [HPQ.out, hqe]]
          rfl)
        cases fl
        · by_cases hru : rh = 0
          · subst hru
            go_wp2_with (go_at_call 18; (with_reducible refine (hsz _).mono ?_); rintro e w1 ⟨rfl, rfl⟩)
            have s1 : IntKind.i64.wrap (q : Int) = q := IntWalk.i64_in _ (by omega)
            have s2 : IntKind.i64.wrap (r : Int) = r := IntWalk.i64_in _ (by omega)
            go_still_tail 17, (by kernel_rfl)
            clear s1 s2 ca a0 a1 a2 a3 cr hsz HPG HBX HBB
            change wpList _ _ _ _ _ wr.drew
            generalize wr.drew = w3 at ca1 b0 b1 b2 b3 c0 c1 k0 f0 k1 f1 k2 f2 k3 f3 k4 f4 k5 f5 k6 f6 k7 f7 HREL HBE ⊢
            go_wp2
            go_round
            case rel =>
              exact ⟨j + 1, by omega, by rw [HUS.out] <;> simp [*], rfl, HREL.out _ rfl, HBE.out, HHS.out⟩
            case measure => simp [RowKit.intOf]; omega
          · have hru2 : (rh != 0) = true := by simpa using hru
            go_wp2_with (go_at_call 18; (with_reducible refine (hsz _).mono ?_); rintro e w1 ⟨rfl, rfl⟩)
            have s1 : IntKind.i64.wrap (q : Int) = q := IntWalk.i64_in _ (by omega)
            have s2 : IntKind.i64.wrap (r : Int) = r := IntWalk.i64_in _ (by omega)
            go_still_tail 17, (by kernel_rfl)
            clear s1 s2 ca a0 a1 a2 a3 cr hsz HPG HBX HBB
            change wpList _ _ _ _ _ wr.drew
            generalize wr.drew = w3 at ca1 b0 b1 b2 b3 c0 c1 k0 f0 k1 f1 k2 f2 k3 f3 k4 f4 k5 f5 k6 f6 k7 f7 HREL HBE ⊢
            go_wp2
            go_round
            case rel =>
              exact ⟨j + 1, by omega, by rw [HUS.out] <;> simp [*], rfl, HREL.out _ rfl, HBE.out, HHS.out⟩
            case measure => simp [RowKit.intOf]; omega
        · skip
          go_wp2_with (go_at_call 18; (with_reducible refine (hsz _).mono ?_); rintro e w1 ⟨rfl, rfl⟩)
          have s1 : IntKind.i64.wrap (q : Int) = q := IntWalk.i64_in _ (by omega)
          have s2 : IntKind.i64.wrap (r : Int) = r := IntWalk.i64_in _ (by omega)
          go_still_tail 17, (by kernel_rfl)
          clear s1 s2 ca a0 a1 a2 a3 cr hsz HPG HBX HBB
          change wpList _ _ _ _ _ wr.drew
          generalize wr.drew = w3 at ca1 b0 b1 b2 b3 c0 c1 k0 f0 k1 f1 k2 f2 k3 f3 k4 f4 k5 f5 k6 f6 k7 f7 HREL HBE ⊢
          go_wp2
          go_round
          case rel =>
            exact ⟨j + 1, by omega, by rw [HUS.out] <;> simp [*], rfl, HREL.out _ rfl, HBE.out, HHS.out⟩
          case measure => simp [RowKit.intOf]; omega
    · obtain rfl : j = n := by omega
      have hjn : ¬ (j : Int) < j := by omega
      cases fl
      · have hpc := pieces_is (HP.out.call hb) (a := a) (n := j) (by have := HR.out; omega)
        obtain ⟨m, hm⟩ : ∃ m, m = (pcs P a j).length := ⟨_, rfl⟩
        unfold ToldA at hpc
        rw [← hm] at hpc
        have HM := Lib.hid hm
        clear hx hb hm HX hh
        go_wp2_with fail
        refine hpc.mono ?_
        rintro e w3 ⟨A1, c1, rfl, ho1, hb3⟩
        have hwr : Below w.heap.size w w3 := HBB.out.trans (hb3.mono HBB.out.size)
        have hbe := become_is (HP.out.call hwr) ((HBX.out.call hb3).px (HP.out.ok.mv (by omega) (by have := HR.out; omega))) HP.out.lw
        unfold Became at hbe
        have HER1 : Hid (er = if fullB (mvP P a j t) = true then 13 else 0) := by
          show _ = _
          rw [HER.out, if_neg (by rw [HHU.out]; decide), if_neg (by rw [← HFL.out]; decide)]
        rw [← HER1.out] at hbe
        have HWR := Lib.hid hwr
        have HO1 := Lib.hid (Enc.Own.base ho1 HBB.out.size)
        clear hpc hwr HBX ho1 hb3
        go_wp2_with fail
        refine hbe.mono ?_
        rintro e w4 ⟨rfl, hd⟩
        have HT := Lib.hid (ls_keep HO1.out (Below.refl _ _) hd.choose_spec.2 (HP.out.call HWR.out).top)
        have HD := Lib.hid (hd.pre (B := B) HWR.out)
        clear hd hbe
        by_cases h0 : er = 0
        · subst h0
          have HF : Hid (¬ fullB (mvP P a j t) = true) := by
            show ¬ _
            intro e; have := HER1.out; rw [if_pos e] at this; omega
          go_wp2
          go_ret2
          have hd := HD.out
          rw [if_neg HF.out] at hd
          have ht := HT.out
          rw [HM.out] at ht ⊢
          exact ToldP.yes ht hd
        · have h0' : (er != 0) = true := by simpa using h0
          have HF : Hid (fullB (mvP P a j t) = true) := by
            show _ = _
            by_cases e : fullB (mvP P a j t) = true
            · exact e
            · exact absurd (HER1.out.trans (if_neg e)) h0
          go_wp2
          go_ret2
          have hd := HD.out
          rw [if_pos HF.out] at hd
          exact ToldP.no' h0 hd
      · have HE7 : Hid (er = 7) := by
          show _ = _
          rw [HER.out, if_neg (by rw [hh]; decide), if_pos HFL.out.symm]
        clear hx hb hh
        go_wp2
        go_ret2
        rw [HE7.out]
        exact ToldP.no (by decide) HP.out HBB.out
set_option maxRecDepth 100000 in
set_option maxHeartbeats 4000000 in
theorem move_down (h : Px B w xa v P) {a n t : Nat} (hr : rtI a n 0 = 0) (hr2 : rtI t n 0 = 0) (hdis : t + n ≤ a) (hco : covB P a n = true) : Calls Tryz.prog 61 #[.pointer (some ⟨xa, 0, none⟩), .int .i64 a, .int .i64 n, .int .i64 t] w (ToldP B w xa P (mvP P a n t) (if hugeB P a n = true then 2 else if usedB P t n = true then 7 else if fullB (mvP P a n t) = true then 13 else 0) (pcs P a n)) := by
  obtain ⟨h1, h2, h3⟩ := rt_in hr
  obtain ⟨h4, _, h6⟩ := rt_in hr2
  have hri := fun w => right_is (a := a) (n := n) ⟨by omega, by omega⟩ ⟨by omega, by omega⟩ w
  have hri2 := fun w => right_is (a := t) (n := n) ⟨by omega, by omega⟩ ⟨by omega, by omega⟩ w
  rw [hr] at hri
  rw [hr2] at hri2
  have hcv := covers_is h (a := a) (n := n) hr (by omega)
  rw [hco] at hcv
  have HR := Lib.hid (And.intro h1 (And.intro h2 (And.intro h3 (And.intro h4 (And.intro h6 hdis)))))
  have HP := Lib.hid h
  have n4 : (n : Int) ≤ 4096 := by omega
  have a4 : (a : Int) ≤ 4096 := by omega
  have t4 : (t : Int) ≤ 4096 := by omega
  have d1 : (t : Int) < (a : Int) + n := by omega
  have d2 : decide ((t : Int) < (a : Int) + n) = true := decide_eq_true d1
  have d3 : ¬ (a : Int) < (t : Int) + n := by omega
  have d4 : decide ((a : Int) < (t : Int) + n) = false := decide_eq_false d3
  have hcp := copied_is h
  obtain ⟨er, her⟩ : ∃ er : Int, er = if hugeB P a n = true then 2 else if usedB P t n = true then 7 else if fullB (mvP P a n t) = true then 13 else 0 := ⟨_, rfl⟩
  rw [← her]
  have HER := Lib.hid her
  clear h hr hr2 hco h1 h2 h3 h4 h6 her hdis
  go_enter Tryz.func61, Tryz.ntmps61
  go_wp2_with (first | (go_at_call 82; first | ((with_reducible refine (hri _).mono ?_); rintro e w1 ⟨rfl, rfl⟩) | ((with_reducible refine (hri2 _).mono ?_); rintro e w1 ⟨rfl, rfl⟩)) | (go_at_call 59; (with_reducible refine hcv.mono ?_); rintro e w1 ⟨rfl, rfl⟩))
  refine hcp.mono ?_
  rintro e w2 ⟨xb, vb, rfl, hx2, hb2⟩
  obtain ⟨g, c, rfl, hgD, -, -⟩ := hx2.form
  have HG := Lib.hid hgD
  have hB0 : Bx w.heap.size w2 xb (.slice (some ⟨g, 0, none⟩) 4096 c) (mvP P a 0 t) := by rw [mvP_zero]; exact hx2.bx
  have HX := Lib.hid hB0
  have HB2 := Lib.hid hb2
  clear hcp hb2 hx2 hB0 hgD hri hri2 hcv
  go_wp2_with fail
  go_loopw [12, 13] (fun fl i wr => ∃ j : Nat, j ≤ n ∧ fl = .bool (usedB P t j) ∧ i = .int .i64 j ∧ Bx w.heap.size wr xb (.slice (some ⟨g, 0, none⟩) 4096 c) (mvP P a j t) ∧ Below w.heap.size w wr ∧ hugeB P a j = false) (fun _ i _ => n - (RowKit.intOf i).toNat)
  case atStart => exact ⟨0, Nat.zero_le _, rfl, rfl, HX.out, HB2.out, rfl⟩
  case round =>
    obtain ⟨j, hj, rfl, rfl, hx, hb, hh⟩ := hrel
    have HBX := Lib.hid hx
    have HBB := Lib.hid hb
    have HHU := Lib.hid hh
    obtain ⟨fl, hfl⟩ : ∃ fl, fl = usedB P t j := ⟨_, rfl⟩
    rw [← hfl]
    have HFL := Lib.hid hfl
    clear hfl
    by_cases hlt : j < n
    · obtain ⟨q, hq⟩ : ∃ q : Nat, q = a + j := ⟨_, rfl⟩
      obtain ⟨r, hrr⟩ : ∃ r : Nat, r = t + j := ⟨_, rfl⟩
      have HQ := Lib.hid (And.intro hq hrr)
      have hjn : (j : Int) < n := by omega
      have hqe : (a : Int) + j = (q : Int) := by omega
      have hre : (t : Int) + j = (r : Int) := by omega
      have hq0 : (0 : Int) ≤ q := by omega
      have hr0 : (0 : Int) ≤ r := by omega
      have hq4 : (q : Int) < 4096 := by have := HR.out; omega
      have hr4 : (r : Int) < 4096 := by have := HR.out; omega
      have hb1 : Below w.heap.size w wr.drew := below_dN hb 1
      have hx1 : Bx w.heap.size wr.drew xb (.slice (some ⟨g, 0, none⟩) 4096 c) (mvP P a j t) := hx.drewN 1
      obtain ⟨gp, cp, hv, -, -, hat⟩ := (HP.out.call hb).form
      have ca := (HP.out.call hb).c0
      have ca1 := (HP.out.call hb1).c0
      rw [hv] at ca ca1
      have cq := pg_at (hat q (by have := HR.out; omega))
      have cr := (pg_at (hat r (by have := HR.out; omega))).1
      obtain ⟨pq, hpq⟩ : ∃ z, z = P q := ⟨_, rfl⟩
      rw [← hpq] at cq
      obtain ⟨qh, qp, qo, qx⟩ := pq
      dsimp only at cq
      obtain ⟨a0, a1, a2, a3⟩ := cq
      have b0 : wr.drew.cell? ⟨gp, q * 4, none⟩ = some (.int .i64 qh) := a0
      have b1 : wr.drew.cell? ⟨gp, q * 4 + 1, none⟩ = some (.int .i64 qp) := a1
      have b2 : wr.drew.cell? ⟨gp, q * 4 + 2, none⟩ = some (.int .i64 qo) := a2
      have b3 : wr.drew.cell? ⟨gp, q * 4 + 3, none⟩ = some (.int .i64 qx) := a3
      change wr.drew.cell? _ = _ at ca1
      obtain ⟨rh, hrh⟩ : ∃ z, z = (P r).h := ⟨_, rfl⟩
      rw [← hrh] at cr
      obtain ⟨s, hs⟩ : ∃ s, s = szO qh := ⟨_, rfl⟩
      have hsz := fun w => size_is qh w
      rw [← hs] at hsz
      have HSQ : Hid (hugeB P a (j + 1) = decide (1 < s)) := by
        show _ = _
        unfold hugeB at hh ⊢
        rw [anyB_succ, hh, Bool.false_or, hs, hqe, ← hpq]
      have HUS : Hid (usedB P t (j + 1) = (fl || decide (rh ≠ 0))) := by
        show _ = _
        have e := HFL.out
        unfold usedB at e ⊢
        rw [anyB_succ, ← e, hrh, hre]
      have HPQ := Lib.hid hpq
      have c0 := hx1.c0
      obtain ⟨hpg, ⟨u0, k0⟩, f0, ⟨u1, k1⟩, f1, ⟨u2, k2⟩, f2, ⟨u3, k3⟩, f3⟩ := hx1.page rfl (i := r) (by have := HR.out; omega) qh qp qo qx
      have c1 := hpg.c0
      obtain ⟨hpg2, ⟨u4, k4⟩, f4, ⟨u5, k5⟩, f5, ⟨u6, k6⟩, f6, ⟨u7, k7⟩, f7⟩ := hpg.page rfl (i := q) (by have := HR.out; omega) 0 0 0 0
      have HPG := Lib.hid hpg2
      have HBE := Lib.hid (below_set (below_set (below_set (below_set (below_set (below_set (below_set (below_set hb1 HG.out (r * 4) (.int .i64 qh)) HG.out (r * 4 + 1) (.int .i64 qp)) HG.out (r * 4 + 2) (.int .i64 qo)) HG.out (r * 4 + 3) (.int .i64 qx)) HG.out (q * 4) (.int .i64 0)) HG.out (q * 4 + 1) (.int .i64 0)) HG.out (q * 4 + 2) (.int .i64 0)) HG.out (q * 4 + 3) (.int .i64 0))
      change wr.drew.cell? _ = _ at c0
      clear hx hb hx1 hb1 hpg hpg2 hq hrr hat hv hh hpq hs hrh
      by_cases hbig : 1 < s
      · have HE2 : Hid (er = 2) := by
          show _ = _
          rw [HER.out, if_pos]
          have h1 := HSQ.out
          rw [decide_eq_true hbig] at h1
          unfold hugeB at h1 ⊢
          rw [anyB_true] at h1 ⊢
          obtain ⟨k, hk, h⟩ := h1
          exact ⟨k, by omega, h⟩
        clear k0 f0 k1 f1 k2 f2 k3 f3 k4 f4 k5 f5 k6 f6 k7 f7
        go_wp2_with (go_at_call 18; (with_reducible refine (hsz _).mono ?_); rintro e w1 ⟨rfl, rfl⟩)
        go_ret2
        rw [HE2.out]
        exact ToldP.no (by decide) HP.out HBB.out
      · have HHS : Hid (hugeB P a (j + 1) = false) := by
          show _ = _
          rw [HSQ.out, decide_eq_false hbig]
        have hbg2 : decide (1 < s) = false := decide_eq_false hbig
        have HREL : Hid (∀ wx, wx = _ → Bx w.heap.size wx xb (.slice (some ⟨g, 0, none⟩) 4096 c) (mvP P a ((j + 1 : Nat) : Int) t)) := fun wx e => e ▸ (HPG.out.congr fun i _ => by
          rw [show (((j + 1 : Nat) : Int)) = (j : Int) + 1 by omega, ← mvP_succ P (by have := HR.out; omega), show (q : Int) = (a : Int) + j by have := HQ.out; omega, show (r : Int) = (t : Int) + j by have := HQ.out; omega, show (⟨qh, qp, qo, qx⟩ : Pg) = P ((a : Int) + j) by rw [HPQ.out, hqe]]
          rfl)
        cases fl
        · by_cases hru : rh = 0
          · subst hru
            go_wp2_with (go_at_call 18; (with_reducible refine (hsz _).mono ?_); rintro e w1 ⟨rfl, rfl⟩)
            have s1 : IntKind.i64.wrap (q : Int) = q := IntWalk.i64_in _ (by omega)
            have s2 : IntKind.i64.wrap (r : Int) = r := IntWalk.i64_in _ (by omega)
            go_still_tail 17, (by kernel_rfl)
            clear s1 s2 ca a0 a1 a2 a3 cr hsz HPG HBX HBB
            change wpList _ _ _ _ _ wr.drew
            generalize wr.drew = w3 at ca1 b0 b1 b2 b3 c0 c1 k0 f0 k1 f1 k2 f2 k3 f3 k4 f4 k5 f5 k6 f6 k7 f7 HREL HBE ⊢
            go_wp2
            go_round
            case rel =>
              exact ⟨j + 1, by omega, by rw [HUS.out] <;> simp [*], rfl, HREL.out _ rfl, HBE.out, HHS.out⟩
            case measure => simp [RowKit.intOf]; omega
          · have hru2 : (rh != 0) = true := by simpa using hru
            go_wp2_with (go_at_call 18; (with_reducible refine (hsz _).mono ?_); rintro e w1 ⟨rfl, rfl⟩)
            have s1 : IntKind.i64.wrap (q : Int) = q := IntWalk.i64_in _ (by omega)
            have s2 : IntKind.i64.wrap (r : Int) = r := IntWalk.i64_in _ (by omega)
            go_still_tail 17, (by kernel_rfl)
            clear s1 s2 ca a0 a1 a2 a3 cr hsz HPG HBX HBB
            change wpList _ _ _ _ _ wr.drew
            generalize wr.drew = w3 at ca1 b0 b1 b2 b3 c0 c1 k0 f0 k1 f1 k2 f2 k3 f3 k4 f4 k5 f5 k6 f6 k7 f7 HREL HBE ⊢
            go_wp2
            go_round
            case rel =>
              exact ⟨j + 1, by omega, by rw [HUS.out] <;> simp [*], rfl, HREL.out _ rfl, HBE.out, HHS.out⟩
            case measure => simp [RowKit.intOf]; omega
        · skip
          go_wp2_with (go_at_call 18; (with_reducible refine (hsz _).mono ?_); rintro e w1 ⟨rfl, rfl⟩)
          have s1 : IntKind.i64.wrap (q : Int) = q := IntWalk.i64_in _ (by omega)
          have s2 : IntKind.i64.wrap (r : Int) = r := IntWalk.i64_in _ (by omega)
          go_still_tail 17, (by kernel_rfl)
          clear s1 s2 ca a0 a1 a2 a3 cr hsz HPG HBX HBB
          change wpList _ _ _ _ _ wr.drew
          generalize wr.drew = w3 at ca1 b0 b1 b2 b3 c0 c1 k0 f0 k1 f1 k2 f2 k3 f3 k4 f4 k5 f5 k6 f6 k7 f7 HREL HBE ⊢
          go_wp2
          go_round
          case rel =>
            exact ⟨j + 1, by omega, by rw [HUS.out] <;> simp [*], rfl, HREL.out _ rfl, HBE.out, HHS.out⟩
          case measure => simp [RowKit.intOf]; omega
    · obtain rfl : j = n := by omega
      have hjn : ¬ (j : Int) < j := by omega
      cases fl
      · have hpc := pieces_is (HP.out.call hb) (a := a) (n := j) (by have := HR.out; omega)
        obtain ⟨m, hm⟩ : ∃ m, m = (pcs P a j).length := ⟨_, rfl⟩
        unfold ToldA at hpc
        rw [← hm] at hpc
        have HM := Lib.hid hm
        clear hx hb hm HX hh
        go_wp2_with fail
        refine hpc.mono ?_
        rintro e w3 ⟨A1, c1, rfl, ho1, hb3⟩
        have hwr : Below w.heap.size w w3 := HBB.out.trans (hb3.mono HBB.out.size)
        have hbe := become_is (HP.out.call hwr) ((HBX.out.call hb3).px (HP.out.ok.mv (by omega) (by have := HR.out; omega))) HP.out.lw
        unfold Became at hbe
        have HER1 : Hid (er = if fullB (mvP P a j t) = true then 13 else 0) := by
          show _ = _
          rw [HER.out, if_neg (by rw [HHU.out]; decide), if_neg (by rw [← HFL.out]; decide)]
        rw [← HER1.out] at hbe
        have HWR := Lib.hid hwr
        have HO1 := Lib.hid (Enc.Own.base ho1 HBB.out.size)
        clear hpc hwr HBX ho1 hb3
        go_wp2_with fail
        refine hbe.mono ?_
        rintro e w4 ⟨rfl, hd⟩
        have HT := Lib.hid (ls_keep HO1.out (Below.refl _ _) hd.choose_spec.2 (HP.out.call HWR.out).top)
        have HD := Lib.hid (hd.pre (B := B) HWR.out)
        clear hd hbe
        by_cases h0 : er = 0
        · subst h0
          have HF : Hid (¬ fullB (mvP P a j t) = true) := by
            show ¬ _
            intro e; have := HER1.out; rw [if_pos e] at this; omega
          go_wp2
          go_ret2
          have hd := HD.out
          rw [if_neg HF.out] at hd
          have ht := HT.out
          rw [HM.out] at ht ⊢
          exact ToldP.yes ht hd
        · have h0' : (er != 0) = true := by simpa using h0
          have HF : Hid (fullB (mvP P a j t) = true) := by
            show _ = _
            by_cases e : fullB (mvP P a j t) = true
            · exact e
            · exact absurd (HER1.out.trans (if_neg e)) h0
          go_wp2
          go_ret2
          have hd := HD.out
          rw [if_pos HF.out] at hd
          exact ToldP.no' h0 hd
      · have HE7 : Hid (er = 7) := by
          show _ = _
          rw [HER.out, if_neg (by rw [hh]; decide), if_pos HFL.out.symm]
        clear hx hb hh
        go_wp2
        go_ret2
        rw [HE7.out]
        exact ToldP.no (by decide) HP.out HBB.out
end
end Go.Proofs.YtnppnoabhpkmkaaGreat
