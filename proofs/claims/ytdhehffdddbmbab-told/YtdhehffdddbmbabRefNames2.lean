/-
  RefNames2: the walks of the document's own Names, Levels, Turns.
-/
import Derived.Test.YtdhehffdddbmbabRefNames
import Derived.Test.YtdhehffdddbmbabMBase
namespace Go.Proofs.Ytdhehffdddbmbab
open Go.RowKit

/-- A row of slices: the pieces of the marks. -/
def LL (w : World) (g : Nat) (xs : List Int) (K : Nat) : Prop := g < w.heap.size ∧ ∀ i, i < K → ∃ A c, w.cell? ⟨g, i, none⟩ = some (.slice A (pc xs i).length c) ∧ Rd w A (pc xs i)
theorem LL.below {w w' : World} {g : Nat} {xs : List Int} {K : Nat} (h : LL w g xs K) (hb : Below w.heap.size w w') : LL w' g xs K :=
  ⟨Nat.lt_of_lt_of_le h.1 hb.size, fun i hi => by obtain ⟨A, c, h1, h2⟩ := h.2 i hi; exact ⟨A, c, (hb.cell (p := ⟨g, i, none⟩) h.1).trans h1, h2.below hb⟩⟩
theorem LL.of {w : World} {B : Nat} {r : Value} {vs : List Value} {xs : List Int} {K : Nat} (h : w.ownsRow B 22 1 r K vs) (hp : PcAll w vs xs K r.ownBlock) (hK : 0 < K) : ∃ g cap, r = .slice (some ⟨g, 0, none⟩) K cap ∧ LL w g xs K := by
  rcases h.2 with ⟨_, h0⟩ | ⟨g, c, cur, rfl, _, hg, _⟩
  · omega
  · refine ⟨g, c, rfl, (Array.getElem?_eq_some_iff.1 hg).1, fun i hi => ?_⟩
    obtain ⟨A, d, h1, h2⟩ := hp.2 i hi
    have := h.cells (g := g) rfl i _ h1
    rw [show (⟨g, 0, none⟩ : Addr).add i = ⟨g, i, none⟩ by unfold Addr.add; split <;> simp_all] at this
    exact ⟨A, d, this, h2.1⟩

theorem pc_le (xs : List Int) (i : Nat) : (pc xs i).length ≤ xs.length + 1 := by
  unfold pc piece
  generalize (if i + 1 < (marks xs).length then ((marks xs).getD (i + 1) 0).toNat else xs.length) = q
  rw [List.length_append, pieceTo_length]
  split <;> simp <;> omega

theorem nameCnt_yes {xs : List Int} {i j : Nat} (h : lt (pc xs j) (pc xs i) = true) (h2 : hadTo xs j j = false) : nameCnt xs i (j + 1) = nameCnt xs i j + 1 := by
  rw [nameCnt_succ, h, h2]; rfl
theorem nameCnt_no {xs : List Int} {i j : Nat} (h : lt (pc xs j) (pc xs i) = false ∨ hadTo xs j j = true) : nameCnt xs i (j + 1) = nameCnt xs i j := by
  rw [nameCnt_succ]
  rcases h with h | h <;> rw [h] <;> simp
theorem nameCnt_le (xs : List Int) (i j : Nat) : nameCnt xs i j ≤ j := countP_range_le _ _

/-- P13. -/
def levels (xs : List Int) : Nat := lev diff xs.length xs

theorem isTurn_no1 {xs : List Int} {p : Nat} (h : kd xs p = 76) : isTurn xs p = false := by simp [isTurn, h]
theorem isTurn_no2 {xs : List Int} {p : Nat} (h : ¬ p + 1 < xs.length) : isTurn xs p = false := by simp [isTurn, h]
theorem isTurn_no3 {xs : List Int} {p : Nat} (h : ¬ kd xs (p + 1) = 76) : isTurn xs p = false := by simp [isTurn, h]
theorem isTurn_yes {xs : List Int} {p : Nat} (h : ¬ kd xs p = 76) (h2 : p + 1 < xs.length) (h3 : kd xs (p + 1) = 76) : isTurn xs p = true := by simp [isTurn, h, h2, h3]

end Go.Proofs.Ytdhehffdddbmbab
