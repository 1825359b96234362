/-
  Mine: marked, stays, mine: the caller writes into the lists that came out.
-/
import Derived.Test.YtdhehffdddbmbabLent
namespace Go.Proofs.Ytdhehffdddbmbab
open Go.RowKit

/-- What the caller writes: x, x-1, x-2 .. -/
def ramp (x : Int) (n : Nat) : List Int := (List.range n).map (fun i : Nat => wrap64 (x - (i : Int)))
theorem ramp_length (x : Int) (n : Nat) : (ramp x n).length = n := by simp [ramp]
theorem ramp_succ (x : Int) (n : Nat) : ramp x (n + 1) = ramp x n ++ [wrap64 (x - n)] := by simp [ramp, List.range_succ]
theorem ramp_at (x : Int) (n i : Nat) (h : i < n) : (ramp x n).getD i 0 = wrap64 (x - i) := by simp [ramp, List.getD, h]

theorem ramp_step {cs : List Value} {x : Int} {k : Nat} (hk : k < cs.length) (h : cs.take k = (ramp x k).map (Value.int .i64)) :
    (cs.set k (.int .i64 (wrap64 (x - k)))).take (k + 1) = (ramp x (k + 1)).map (Value.int .i64) := by
  rw [List.take_succ_eq_append_getElem (by simpa using hk), ramp_succ, List.map_append, ← h]
  simp [List.take_set_of_le]

/-- A list that came out: nil, or a row of its own. -/
def FreeV (w : World) (v : Value) : Prop := v = .slice none 0 0 ∨ ∃ g n cap cs, v = .slice (some ⟨g, 0, none⟩) n cap ∧ OwnV w g 3 cs ∧ cs.length = cap ∧ cap ≤ 9223372036854775807
/-- The caller has written into it, its spare room too. -/
def Marked (w : World) (v : Value) (x : Int) : Prop := v = .slice none 0 0 ∨ ∃ g n cap, v = .slice (some ⟨g, 0, none⟩) n cap ∧ Own w g (ramp x cap) ∧ cap ≤ 9223372036854775807

theorem FreeV.kept {w w' : World} {v : Value} {r : Option Nat} (h : FreeV w v) (hg : w.grownBy w' r) (hne : v.ownBlock = none ∨ v.ownBlock ≠ r) : FreeV w' v := by
  rcases h with h | ⟨g, n, cap, cs, rfl, h2, h3⟩
  · exact .inl h
  · refine .inr ⟨g, n, cap, cs, rfl, h2.kept hg ?_, h3⟩
    rcases hne with e | e
    · simp [Value.ownBlock] at e
    · simpa [Value.ownBlock] using e
theorem FreeV.below {w w' : World} {v : Value} (h : FreeV w v) (hb : Below w.heap.size w w') : FreeV w' v := by
  rcases h with h | ⟨g, n, cap, cs, rfl, h2, h3⟩
  · exact .inl h
  · exact .inr ⟨g, n, cap, cs, rfl, h2.below hb h2.lt, h3⟩
theorem FreeV.drewN {w : World} {v : Value} (h : FreeV w v) (q : Nat) : FreeV (w.drewN q) v := h
theorem Marked.kept {w w' : World} {v : Value} {x : Int} {r : Option Nat} (h : Marked w v x) (hg : w.grownBy w' r) (hne : v.ownBlock = none ∨ v.ownBlock ≠ r) : Marked w' v x := by
  rcases h with h | ⟨g, n, cap, rfl, h2, h3⟩
  · exact .inl h
  · refine .inr ⟨g, n, cap, rfl, h2.kept hg ?_, h3⟩
    rcases hne with e | e
    · simp [Value.ownBlock] at e
    · simpa [Value.ownBlock] using e
theorem FreeV.of_owns {w : World} {B : Nat} {v : Value} {n : Nat} {xs : List Value} (h : w.ownsRow B 3 1 v n xs) : FreeV w v := by
  rcases h.2 with ⟨rfl, _⟩ | ⟨g, cap, cur, rfl, _, hh, _, hm, hsz, _⟩
  · exact .inl rfl
  · exact .inr ⟨g, n, cap, cur.toList, rfl, hh, by simpa using hsz, by unfold maxLen at hm; omega⟩
theorem FreeV.of_own {w : World} {g n : Nat} {cs : List Int} (h : Own w g cs) (hc : cs.length ≤ 9223372036854775807) : FreeV w (.slice (some ⟨g, 0, none⟩) n cs.length) :=
  .inr ⟨g, n, cs.length, cs.map (Value.int .i64), rfl, h.v, by simp, hc⟩

theorem owns_of_own {w : World} {B g : Nat} {l : List Int} {n : Nat} (h : Own w g l) (hB : B ≤ g) (hn : l.length = n) (hl : n ≤ maxLen) : w.ownsRow B 3 1 (.slice (some ⟨g, 0, none⟩) n n) n (l.map (Value.int .i64)) := by
  refine ⟨by simp [hn], .inr ⟨g, n, (l.map (Value.int .i64)).toArray, rfl, hB, h, Nat.le_refl _, hl, by simp [hn], ?_⟩⟩
  rw [Nat.mul_one]
  exact List.take_of_length_le (by simp [hn])

theorem grownBy_below' {a w : World} {r : Option Nat} {B : Nat} (h : a.grownBy w r) (hB : B ≤ a.heap.size) (hr : ∀ k, r = some k → B ≤ k) : Below B a w :=
  ⟨h.os, h.tape, h.output, h.size, fun k hk => h.block k (by omega) (fun e => by have := hr k e.symm; omega)⟩

end Go.Proofs.Ytdhehffdddbmbab
