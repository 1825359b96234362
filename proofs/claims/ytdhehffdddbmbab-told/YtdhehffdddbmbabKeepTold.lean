/-
  KeepTold: rows that the statement itself writes into; what Told asks of lists with something changed.
-/
import Derived.Test.YtdhehffdddbmbabKeep2
import Derived.Test.YtdhehffdddbmbabOrder
namespace Go.Proofs.Ytdhehffdddbmbab
open Go.RowKit

/-- Block 'g' begins with the numbers 'xs', and may be written into. -/
def Wr (w : World) (g : Nat) (xs : List Int) : Prop := ∃ cs : List Value, OwnV w g 3 cs ∧ xs.length ≤ cs.length ∧ ∀ i, i < xs.length → cs[i]? = some (.int .i64 (xs.getD i 0))

section
variable {w w' : World} {g : Nat} {xs : List Int}
theorem Wr.lt (h : Wr w g xs) : g < w.heap.size := by obtain ⟨cs, h1, _⟩ := h; exact h1.lt
theorem Wr.cell (h : Wr w g xs) {i : Nat} (hi : i < xs.length) : w.cell? ⟨g, i, none⟩ = some (.int .i64 (xs.getD i 0)) := by
  obtain ⟨cs, h1, _, h3⟩ := h
  exact h1.get (h3 i hi)
theorem Wr.frozen (h : Wr w g xs) (i : Nat) : w.frozen? ⟨g, i, none⟩ = false := by obtain ⟨cs, h1, _⟩ := h; exact h1.frozen i
theorem Wr.rd (h : Wr w g xs) : Rd w (some ⟨g, 0, none⟩) xs := fun _ => ⟨g, 0, rfl, h.lt, fun i hi => by rw [Nat.zero_add]; exact h.cell hi⟩
theorem Wr.set (h : Wr w g xs) (i : Nat) (v : Int) : Wr (w.setCell ⟨g, i, none⟩ (.int .i64 v)) g (xs.set i v) := by
  obtain ⟨cs, h1, h2, h3⟩ := h
  refine ⟨_, h1.set i _, by simpa using h2, fun k hk => ?_⟩
  simp at hk
  by_cases e : i = k
  · subst e
    rw [List.getElem?_set_self (by omega)]
    simp [List.getD, hk]
  · rw [List.getElem?_set_ne e, h3 k hk]
    simp [List.getD, List.getElem?_set_ne e]
theorem Wr.other (h : Wr w g xs) {p : Addr} (hp : p.block ≠ g) (u : Value) : Wr (w.setCell p u) g xs := by
  obtain ⟨cs, h1, h2⟩ := h; exact ⟨cs, h1.other hp u, h2⟩
theorem Wr.below (h : Wr w g xs) (hb : Below w.heap.size w w') : Wr w' g xs := by
  have hl := h.lt
  obtain ⟨cs, h1, h2⟩ := h; exact ⟨cs, h1.below hb hl, h2⟩
theorem Wr.drewN (h : Wr w g xs) (q : Nat) : Wr (w.drewN q) g xs := h
end

theorem wr_of_owns {w : World} {B : Nat} {v : Value} {n : Nat} {l : List Int} (h : w.ownsRow B 3 1 v n (l.map (Value.int .i64))) (hn : 0 < n) : ∃ g cap, v = .slice (some ⟨g, 0, none⟩) n cap ∧ Wr w g l ∧ l.length = n ∧ n ≤ cap ∧ B ≤ g := by
  have hl : l.length = n := by simpa using h.1
  rcases h.2 with ⟨rfl, rfl⟩ | ⟨g, cap, cur, rfl, hB, hh, hc, hm, hsz, ht⟩
  · omega
  · refine ⟨g, cap, rfl, ⟨cur.toList, by unfold OwnV; simpa using hh, ?_, fun i hi => ?_⟩, hl, hc, hB⟩
    · have : cur.toList.length = cap := by simpa using hsz
      omega
    · have h2 : (cur.toList.take n)[i]? = (l.map (Value.int .i64))[i]? := by rw [← ht]; simp
      rw [List.getElem?_take, if_pos (by omega)] at h2
      rw [h2]
      simp [List.getD, hi]

theorem told_yes {ts L : List Int} (hs : scanE ts 60 = 0) (hO : Ord ts L) : Told ts L := by
  obtain ⟨h1, h2, _⟩ := scan_zero hs
  exact ⟨h1, h2, hO⟩
theorem told_iff {ts L L' : List Int} (hs : scanE ts 60 = 0) (hO : Ord ts L) : Told ts L' ↔ L' = L := by
  constructor
  · intro h; exact h.2.2.unique hO
  · rintro rfl; exact told_yes hs hO
/-- Two places changed. -/
theorem swap_iff {L : List Int} (hd : L.Nodup) {x y : Nat} (hx : x < L.length) (hy : y < L.length) : (L.set x (L.getD y 0)).set y (L.getD x 0) = L ↔ x = y := by
  constructor
  · intro h
    have h1 : ((L.set x (L.getD y 0)).set y (L.getD x 0))[y]? = some (L.getD x 0) := by rw [List.getElem?_set_self (by simpa using hy)]
    rw [h, List.getElem?_eq_getElem hy] at h1
    have h2 : L[y] = L[x] := by simpa [List.getD, hx] using h1
    rcases Nat.lt_trichotomy x y with h3 | h3 | h3
    · exact absurd h2.symm (List.pairwise_iff_getElem.1 hd x y hx hy h3)
    · exact h3
    · exact absurd h2 (List.pairwise_iff_getElem.1 hd y x hy hx h3)
  · rintro rfl
    rw [List.set_set]
    apply List.ext_getElem?
    intro i
    by_cases e : x = i
    · subst e; rw [List.getElem?_set_self hx]; simp [List.getD, hx]
    · rw [List.getElem?_set_ne e]
theorem set_iff {L : List Int} {x : Nat} (hx : x < L.length) (v : Int) : L.set x v = L ↔ v = L.getD x 0 := by
  constructor
  · intro h
    have h1 : (L.set x v)[x]? = some v := by rw [List.getElem?_set_self hx]
    rw [h] at h1
    simp [List.getD, h1]
  · rintro rfl
    apply List.ext_getElem?
    intro i
    by_cases e : x = i
    · subst e; rw [List.getElem?_set_self hx]; simp [List.getD, hx]
    · rw [List.getElem?_set_ne e]
/-- Changed, and changed back. -/
theorem swap_back {L : List Int} {x y : Nat} (hx : x < L.length) (hy : y < L.length) : ((((L.set x (L.getD y 0)).set y (L.getD x 0)).set y (((L.set x (L.getD y 0)).set y (L.getD x 0)).getD x 0)).set x (L.getD x 0)) = L := by
  apply List.ext_getElem?
  intro i
  by_cases e1 : x = i
  · subst e1; rw [List.getElem?_set_self (by simpa using hx)]; simp [List.getD, hx]
  · rw [List.getElem?_set_ne e1]
    by_cases e2 : y = i
    · subst e2
      rw [List.getElem?_set_self (by simpa using hy)]
      have : ((L.set x (L.getD y 0)).set y (L.getD x 0)).getD x 0 = L.getD y 0 := by
        rw [List.getD, List.getElem?_set_ne (fun h => e1 h.symm), List.getElem?_set_self hx]; rfl
      rw [this]
      simp [List.getD, hy]
    · rw [List.getElem?_set_ne e2, List.getElem?_set_ne e2, List.getElem?_set_ne e1]

end Go.Proofs.Ytdhehffdddbmbab
