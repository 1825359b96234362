/-
  BuiltWalk: the walk of the statement's own 'built' at any way, for All.
-/
import Derived.Test.YtdhehffdddbmbabGreatRow
import Derived.Test.YtdhehffdddbmbabGreatBuild
namespace Go.Proofs.YtdhehffdddbmbabGreat
open Go.RowKit

theorem built_walk (a0 : Option Addr) (len0 cap0 : Nat) (z0 : List Int) (k way bY : Int) (c : Bool) (w : World) (w0 : IsRow .i64 w a0 len0 cap0 z0) :
    Calls Tryz.prog 9 #[.slice a0 len0 cap0, .int .i64 k, .int .i64 way, .int .i64 bY, .bool c] w fun e w' => e = .returned (.bool true) ∧ Below w.heap.size w w' := by
  obtain ⟨xs, rfl, hr, hl, -⟩ := rd_of_row w0
  have hcap : xs.length ≤ cap0 := row_cap w0
  have hcap' : cap0 ≤ 9223372036854775807 := row_max w0
  by_cases hbig : 1073741824 < xs.length
  · unfold maxLen at hl
    refine (builtBig_any a0 cap0 xs k way bY c _ hbig (by omega)).mono ?_
    rintro e v1 ⟨rfl, rfl⟩
    exact ⟨rfl, Below.refl _ _⟩
  · by_cases hs : scanE xs k = 0
    · by_cases ho : way < 0 ∨ 2 < way ∨ bY < 0 ∨ 1 < bY
      · exact builtOpt_any buildOpt a0 cap0 xs k way bY c w hr hs ho
      · obtain ⟨n, rfl⟩ : ∃ n : Nat, way = n := ⟨way.toNat, by omega⟩
        exact builtOk_any n (buildOks n (by omega)) (by omega) (by omega) a0 cap0 xs k bY c w hr hcap hcap' hs (by omega) (by omega)
    · exact builtErr_any buildErr a0 cap0 xs k way bY c w hr (by omega) hs

end Go.Proofs.YtdhehffdddbmbabGreat
