/-
  RefOrder: the walks of the document's own Order and CheckOrder.
-/
import Derived.Test.YtdhehffdddbmbabOrder
import Derived.Test.YtdhehffdddbmbabRefDense
import Derived.Test.YtdhehffdddbmbabRefKinds
namespace Go.Proofs.Ytdhehffdddbmbab
open Go.RowKit

theorem ownsRow_base {w : World} {B B' : Nat} {e : TypeId} {size : Nat} {v : Value} {n : Nat} {xs : List Value} (h : w.ownsRow B e size v n xs) (hB : B' ≤ B) : w.ownsRow B' e size v n xs := by
  refine ⟨h.1, ?_⟩
  rcases h.2 with h1 | ⟨g, c, cur, h1, h2, h3⟩
  · exact .inl h1
  · exact .inr ⟨g, c, cur, h1, by omega, h3⟩

/-- A list that grows by append, as a slice that is read. -/
theorem owns_slice {w : World} {B : Nat} {v : Value} {n : Nat} {l : List Int} (h : w.ownsRow B 3 1 v n (l.map (Value.int .i64))) : ∃ A cap, v = .slice A n cap ∧ Rd w A l ∧ l.length = n ∧ n ≤ cap ∧ cap ≤ 9223372036854775807 := by
  have hl : l.length = n := by simpa using h.1
  rcases h.2 with ⟨rfl, rfl⟩ | ⟨g, c, cur, rfl, _, _, h1, h2, _, _⟩
  · obtain rfl : l = [] := List.eq_nil_of_length_eq_zero hl
    exact ⟨none, 0, rfl, Rd.nil _ _, rfl, Nat.le_refl _, by omega⟩
  · exact ⟨_, c, rfl, rd_of_owns h, hl, h1, by unfold maxLen at h2; omega⟩

theorem owns_grow {w wr w3 : World} {out : Value} {n : Nat} {l : List Value} (hown : wr.ownsRow w.heap.size 3 1 out n l) (hb : Below w.heap.size w wr) (o : Obj) (hg : (wr.alloc o).grownBy w3 out.ownBlock) : Below w.heap.size w w3 :=
  (hb.alloc hb.size o).grown hg (by have := hb.size; simp; omega) (fun k hk => owns_block hown k hk)

theorem less_step {xs L : List Int} {n k : Nat} (hk : k < L.length) (h : ∀ p ∈ L.take k, sl xs p n) (hs : sl xs L[k] n) : ∀ p ∈ L.take (k + 1), sl xs p n := by
  intro p hp
  rw [take_snoc hk] at hp
  rcases List.mem_append.1 hp with h1 | h1
  · exact h p h1
  · simp at h1; subst h1; exact hs

/-- A call that tells whether P holds, and may make memory. -/
def TellsB (w : World) (P : Prop) (e : Ending) (w' : World) : Prop := ∃ b : Bool, e = .returned (.bool b) ∧ (b = true ↔ P) ∧ Below w.heap.size w w'
theorem TellsB.of {w w' : World} {P : Prop} {e : Ending} (b : Bool) (he : e = .returned (.bool b)) (h : b = true ↔ P) (hb : Below w.heap.size w w') : TellsB w P e w' := ⟨b, he, h, hb⟩

/-- What the document's CheckOrder tells: the same. -/
theorem told_of_same {xs os L : List Int} (hL : Ord xs L) (h96 : xs.length ≤ 96) (h0 : ∀ x ∈ xs, 0 ≤ x) : (L == os) = true ↔ Told xs os := by
  rw [beq_iff_eq]
  constructor
  · rintro rfl; exact ⟨h96, h0, hL⟩
  · intro h; exact hL.unique h.2.2

end Go.Proofs.Ytdhehffdddbmbab
