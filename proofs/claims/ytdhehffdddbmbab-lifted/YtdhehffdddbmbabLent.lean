/-
  Lent: Same, lent, whole: lists that the statement owns.
-/
import Derived.Test.YtdhehffdddbmbabBase
import Derived.Laws.CopyOwn
namespace Go.Proofs.Ytdhehffdddbmbab
open Go.RowKit

theorem same_step {xs ys : List Int} (n : Nat) (hl : xs.length = ys.length) (hn : n < xs.length) (h : xs.take n = ys.take n) (he : xs[n] = ys[n]'(by omega)) : xs.take (n + 1) = ys.take (n + 1) := by
  rw [List.take_succ_eq_append_getElem hn, List.take_succ_eq_append_getElem (by omega), h, he]

theorem same_yes {xs ys : List Int} (hl : xs.length = ys.length) (h : xs.take xs.length = ys.take xs.length) : (xs == ys) = true := by
  rw [List.take_length, hl, List.take_length] at h
  simp [h]

theorem same_no {xs ys : List Int} (n : Nat) (hn : n < xs.length) (hy : n < ys.length) (he : xs[n] ≠ ys[n]) : (xs == ys) = false := by
  rw [beq_eq_false_iff_ne]
  rintro rfl
  exact he rfl

theorem made_row {w w0 : World} {n : Nat} (h : w0.ownsRow w.heap.size 3 1 (.slice (some ⟨w.heap.size, 0, none⟩) n n) n (madeCells #[Value.int .i64 0] n).toList) (hg : w.grownBy w0 none) :
    Own w0 w.heap.size (List.replicate n 0) ∧ Below w.heap.size w w0 ∧ w.heap.size < w0.heap.size := by
  rw [toList_madeCells_one] at h
  have ho : Own w0 w.heap.size (List.replicate n 0) := Own.of_row (n := n) (by simpa using h)
  exact ⟨ho, (Below.refl _ _).grown hg (Nat.le_refl _) (fun k h => by cases h), ho.lt⟩

theorem copy_row {w : World} {a : Option Addr} {xs : List Int} {g cap dcap : Nat} {ys : List Int} (ho : Own w g (ys ++ [0, 0])) (hy : ys.length = xs.length) (hr : Rd w a xs) :
    ∃ w1, (∀ ty, (Builtin.copy_ #[22, 22] ty #[.slice (some ⟨g, 0, none⟩) (xs.length + 2) dcap, .slice a xs.length cap]).run Try.prog w = .ok (goInt xs.length) w1) ∧ Own w1 g (xs ++ [0, 0]) ∧ Below g w w1 ∧ w1.heap.size = w.heap.size := by
  by_cases hx : xs = []
  · subst hx
    obtain rfl : ys = [] := List.eq_nil_of_length_eq_zero hy
    exact ⟨w, fun ty => run_copy_none w _ _ ty 3 _ _ _ _ _ _ Try.underlying22 (by kernel_rfl) (by simp), ho, Below.refl _ _, rfl⟩
  · obtain ⟨b, off, rfl, hb, hc⟩ := hr hx
    have hadd : ∀ j, (⟨b, off, none⟩ : Addr).add j = ⟨b, off + j, none⟩ := fun j => by unfold Addr.add; split <;> simp_all
    refine ⟨w.setRow g ((xs ++ [0, 0]).map (Value.int .i64)).toArray, fun ty => ?_, ?_, ?_, ?_⟩
    · have hrun := run_copy_row Try.prog w 22 22 ty 3 g 0 (xs.length + 2) dcap ⟨b, off, none⟩ xs.length cap _ 3 (xs.map (Value.int .i64)) Try.underlying22 (by kernel_rfl) ho (by simp) ?_ ?_ ?_
      · rw [hrun]
        simp [hy]
      · intro j v hv
        simp at hv
        obtain ⟨x, hx1, rfl⟩ := hv
        have hj : j < xs.length := (List.getElem?_eq_some_iff.1 hx1).1
        rw [hadd, hc j hj]
        simp [List.getD, hx1]
      · simp [hy]
      · intro v hv
        simp at hv
        obtain ⟨x, _, rfl⟩ := hv
        rfl
    · exact setRow_heap w g _ _ _ _ ho
    · exact below_setRow (Below.refl _ _) (Nat.le_refl _) _
    · simp [World.setRow]

theorem set_tail (xs : List Int) : ((xs ++ [0, 0]).set xs.length 77).set (xs.length + 1) 77 = xs ++ [77, 77] := by simp

end Go.Proofs.Ytdhehffdddbmbab
