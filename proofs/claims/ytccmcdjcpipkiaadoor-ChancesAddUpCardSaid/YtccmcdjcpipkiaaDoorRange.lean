/- The walk of the stream's Range. -/
import Derived.Test.YtccmcdjcpipkiaaDoorTerms
namespace Go.Proofs.YtccmcdjcpipkiaaDoor
open Go.RowKit
variable {Q : Nat → Prop}

theorem range_any (bs : Nat) (L : List Int) (t : Nat) (a b : Int) (w : World) (hs : StrQ Q w bs L t) (ht : t ≤ 1000000) (hab : a ≤ b) (ha : -1000000 ≤ a) (hb : b ≤ 1000000) :
    Calls Tryd.prog 8 #[.pointer (some ⟨bs, 0, none⟩), .int .i64 a, .int .i64 b] w fun e w' => e = .returned (.int .i64 (a + nx L t (b - a + 1))) ∧ StrQ Q w' bs L (t + 1) ∧ w.grownBy w' (some bs) := by
  obtain ⟨h0, h1⟩ := nx_in L t (b - a + 1) (by omega)
  have hN := next_any bs L t (b - a + 1) w hs ht (by omega)
  generalize nx L t (b - a + 1) = z at *
  have HN := Lib.hid hN
  clear hN
  go_enter Tryd.func8, Tryd.ntmps8
  go_wp2_with fail
  refine HN.out.mono ?_
  rintro e w' ⟨rfl, hs1, hg⟩
  go_wp2_with fail
  go_ret
  exact ⟨rfl, hs1, hg⟩

end Go.Proofs.YtccmcdjcpipkiaaDoor
