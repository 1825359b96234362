/-
  MBef: what Neigh's lists are in the words of Before and Longest (P11). Plain mathematics.
-/
import Derived.Test.YtdhehffdddbmbaaRefBefore
import Derived.Test.YtdhehffdddbmbaaNeigh
namespace Go.Proofs.Ytdhehffdddbmbaa

theorem befs_isBefore {xs L : List Int} (hO : Ord xs L) : IsBefore xs L (befs L xs.length) :=
  ⟨befs_length L xs.length, fun i hi => befs_ord hO i (by rw [OrdTo.length hO] at hi; exact hi)⟩
theorem longest_lgs {xs L : List Int} (hO : Ord xs L) : longest xs (befs L xs.length) = lgs xs L := by
  unfold longest lgs
  refine List.map_congr_left (fun p hp => ?_)
  have hp := List.mem_range.1 hp
  have hpl := ps_lt hO hp
  unfold longAt
  rw [befs_at L hp]
  by_cases h : ps L p = 0
  · rw [before_zero h, if_neg (by omega), lg_zero h]; rfl
  · have hat := OrdTo.at hO (i := ps L p - 1) (by omega)
    rw [before_pos h, if_pos (by omega)]
    obtain ⟨b, hb⟩ : ∃ b : Nat, L.getD (ps L p - 1) 0 = b := ⟨(L.getD (ps L p - 1) 0).toNat, by omega⟩
    rw [lg_pos h hb, hb, Int.toNat_natCast, cm_comm]

end Go.Proofs.Ytdhehffdddbmbaa
