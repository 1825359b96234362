/-
  KeepLift: what Lifted asks.
-/
import Derived.Test.YtdhehffdddbmbabKeep2
import Derived.Test.YtdhehffdddbmbabMMarks
import Derived.Test.YtdhehffdddbmbabRest
namespace Go.Proofs.Ytdhehffdddbmbab
open Go.RowKit

theorem names_scan {ts : List Int} (h : ts.length ≤ 96) : scanE (names ts) 96 = 0 := by
  have hm := marks_half ts
  have hin : ¬ firstOut (names ts) 96 < (names ts).length := by
    intro hlt
    obtain ⟨x, hx, hno⟩ := firstOut_out hlt
    have := names_range hx
    exact hno ⟨this.1, by omega⟩
  unfold scanE
  have hlen : ¬ 96 < (names ts).length := by rw [names_length]; omega
  simp only [if_neg hlen, if_neg hin]
  simp

end Go.Proofs.Ytdhehffdddbmbab
