/- AreaApart, walked. -/
import Derived.Test.YtodepfgfgphkbaaZ2
import Derived.Test.YtodepfgfgphkbaaZ3
import Derived.Test.YtodepfgfgphkbaaZ4
import Derived.Test.YtodepfgfgphkbaaZ5
import Derived.Test.YtodepfgfgphkbaaZ6
import Derived.Test.YtodepfgfgphkbaaZ7
import Derived.Test.YtodepfgfgphkbaaZ8
namespace Go.Proofs.Ytodepfgfgphkbaa
open Go.RowKit
theorem apart_walk (A : Option Addr) (n c : Nat) (l : Ac) {pg : Int} (w : World) (hA : Acs w w.heap.size A n) (hl : IsAc l) (_ : Fits pg) : Calls Try.prog 5 #[.slice A n c, .agg #[.int .i64 l.k, .int .i64 l.a, .int .i64 l.n, .int .i64 l.g, .int .i64 l.p, .int .i64 l.o, .int .i64 l.t], .int .i64 pg] w fun e w' => e = .returned (.bool true) ∧ Below w.heap.size w w' := by
  by_cases hp : 0 ≤ pg ∧ pg < 4096
  · obtain ⟨pg, rfl⟩ : ∃ k : Nat, pg = k := ⟨pg.toNat, by omega⟩
    have hp' : pg < 4096 := by omega
    by_cases h0 : l.k = 0
    · exact ap_map0 A n c l w hA hl hp' h0
    · by_cases h1 : l.k = 1
      · exact ap_map1 A n c l w hA hl hp' h1
      · by_cases h2 : l.k = 2
        · exact ap_map2 A n c l w hA hl hp' h2
        · by_cases h3 : l.k = 3
          · exact ap_un A n c l w hA hl hp' h3
          · by_cases h4 : l.k = 4
            · exact ap_pr A n c l w hA hl hp' h4
            · by_cases h5 : 4 < l.k
              · exact ap_mvu A n c l w hA hl hp' h5
              · exact ap_mvd A n c l w hA hl hp' (by omega)
  · exact ap_out A n c l w hA hp
end Go.Proofs.Ytodepfgfgphkbaa
