/-
  The walk of TicketPlays, whatever comes in.
-/
import Derived.Test.YtioanbdmkiphfaaDoorPlaysNo
import Derived.Test.YtioanbdmkiphfaaDoorPlaysWalk
namespace Go.Proofs.YtioanbdmkiphfaaDoor
open Go.RowKit
namespace ticketPlays
theorem walk (t c : Int) (ad : Option Addr) (len cap : Nat) (w : World) (hT : TB w) (hA : ActsIn w ad len) (hlen : len < 9223372036854775808) (hu : U t) :
    Calls Tryd.prog 3 #[.int .u64 t, .int .i64 c, .slice ad len cap] w fun e w' => e = .returned (.bool true) ∧ Below w.heap.size w w' := by
  by_cases hE : newE 512 t c = 0
  · unfold newE at hE
    by_cases h1 : 1 ≤ c ∧ c ≤ 8
    · rw [if_neg (fun e => e h1)] at hE
      by_cases h8 : t % 8 = 0
      · rw [if_neg (fun e => e h8)] at hE
        by_cases h16 : t + 16 ≤ ((512 : Nat) : Int)
        · obtain ⟨n, rfl⟩ := Int.eq_ofNat_of_zero_le (show 0 ≤ c by omega)
          exact walk_ok t n ad len cap w hT hA hlen (by omega) (by omega) hu.1 h8 (by omega)
        · rw [if_pos h16] at hE; exact absurd hE (by decide)
      · rw [if_pos h8] at hE; exact absurd hE (by decide)
    · rw [if_pos h1] at hE; exact absurd hE (by decide)
  · exact walk_bad t c ad len cap w hT hlen hu.1 hu.2 hE
end ticketPlays
end Go.Proofs.YtioanbdmkiphfaaDoor
