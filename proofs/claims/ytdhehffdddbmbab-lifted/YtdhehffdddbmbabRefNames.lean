/-
  RefNames: the walks of the document's own Marks, Names, Levels, Turns.
-/
import Derived.Test.YtdhehffdddbmbabRefRanks
import Derived.Test.YtdhehffdddbmbabMMarks
import Derived.Maps.AppendAt
namespace Go.Proofs.Ytdhehffdddbmbab
open Go.RowKit

theorem kd_small (xs : List Int) (i : Nat) : kd xs i = 76 ∨ kd xs i = 77 ∨ kd xs i = 83 := by
  unfold kd; split
  · exact .inl rfl
  · split
    · exact .inr (.inl rfl)
    · exact .inr (.inr rfl)

/-- The string of the kinds, as a string that is looked into. -/
theorem kinds_string (xs : List Int) : (strOfNums (kindsL xs)).size = xs.length ∧ ∀ i (h : i < (strOfNums (kindsL xs)).size), ((strOfNums (kindsL xs))[i].toNat : Int) = kd xs i := by
  refine ⟨by rw [strOfNums_size, kindsL_length], fun i h => ?_⟩
  have hl : i < xs.length := by rwa [strOfNums_size, kindsL_length] at h
  have : (strOfNums (kindsL xs))[i] = UInt8.ofNat (kd xs i).toNat := by
    show (strOfNums (kindsL xs)).data[i] = _
    simp [strOfNums, kindsL]
  rw [this]
  rcases kd_small xs i with e | e | e <;> rw [e] <;> rfl

theorem dense_getD (xs : List Int) (j : Nat) (hj : j < xs.length) : ∃ D : Nat, (dense xs).getD j 0 = D ∧ D ≤ xs.length := by
  refine ⟨cl (dis xs) xs[j], by simp [dense, List.getD, hj], Nat.le_trans (cl_le _ _) (dis_length_le _)⟩

theorem pieceTo_length (xs : List Int) (p n : Nat) : (pieceTo xs p n).length = n := by simp [pieceTo]

/-! ### A list of lists -/

/-- A list that is read, in a row apart from 'avoid'. -/
def Apart (w : World) (A : Option Addr) (l : List Int) (avoid : Option Nat) : Prop := Rd w A l ∧ ∀ x, A = some x → x.block < w.heap.size ∧ some x.block ≠ avoid
theorem Apart.below {w w' : World} {A : Option Addr} {l : List Int} {av : Option Nat} (h : Apart w A l av) (hb : Below w.heap.size w w') : Apart w' A l av :=
  ⟨h.1.below hb, fun x e => ⟨Nat.lt_of_lt_of_le (h.2 x e).1 hb.size, (h.2 x e).2⟩⟩
theorem Apart.grown {w w' : World} {A : Option Addr} {l : List Int} {av : Option Nat} (h : Apart w A l av) (hg : w.grownBy w' av) (av' : Option Nat) (hav : av' = av ∨ av' = some w.heap.size) : Apart w' A l av' := by
  refine ⟨fun hne => ?_, fun x e => ?_⟩
  · obtain ⟨b, off, rfl, hb, hc⟩ := h.1 hne
    have hx := h.2 ⟨b, off, none⟩ rfl
    exact ⟨b, off, rfl, Nat.lt_of_lt_of_le hb hg.size, fun i hi => hg.cell (hc i hi) hx.2⟩
  · have hx := h.2 x e
    refine ⟨Nat.lt_of_lt_of_le hx.1 hg.size, ?_⟩
    rcases hav with rfl | rfl
    · exact hx.2
    · intro h; have := Option.some.inj h; omega

/-- The values 'vs' are the slices of the first k pieces. -/
def PcAll (w : World) (vs : List Value) (xs : List Int) (k : Nat) (av : Option Nat) : Prop :=
  vs.length = k ∧ ∀ i, i < k → ∃ A c, vs[i]? = some (.slice A (pc xs i).length c) ∧ Apart w A (pc xs i) av
theorem PcAll.nil (w : World) (xs : List Int) (av : Option Nat) : PcAll w [] xs 0 av := ⟨rfl, by omega⟩
theorem PcAll.below {w w' : World} {vs : List Value} {xs : List Int} {k : Nat} {av : Option Nat} (h : PcAll w vs xs k av) (hb : Below w.heap.size w w') : PcAll w' vs xs k av :=
  ⟨h.1, fun i hi => by obtain ⟨A, c, h1, h2⟩ := h.2 i hi; exact ⟨A, c, h1, h2.below hb⟩⟩
theorem PcAll.snoc {w w' : World} {vs : List Value} {xs : List Int} {k : Nat} {av : Option Nat} {A : Option Addr} {c : Nat} (h : PcAll w vs xs k av) (hA : Apart w A (pc xs k) av) (hg : w.grownBy w' av) (av' : Option Nat) (hav : av' = av ∨ av' = some w.heap.size) : PcAll w' (vs ++ [.slice A (pc xs k).length c]) xs (k + 1) av' := by
  refine ⟨by simp [h.1], fun i hi => ?_⟩
  rcases Nat.lt_or_ge i k with h1 | h1
  · obtain ⟨B, d, h2, h3⟩ := h.2 i h1
    exact ⟨B, d, by rw [List.getElem?_append_left (by rw [h.1]; exact h1)]; exact h2, h3.grown hg av' hav⟩
  · obtain rfl : i = k := by omega
    exact ⟨A, c, by rw [List.getElem?_append_right (by rw [h.1]; exact Nat.le_refl _), h.1, Nat.sub_self]; rfl, hA.grown hg av' hav⟩

theorem Try.infoSlice : (Try.prog.info? 22).map (fun i => (i.zero, i.size, i.bytes)) = some (some (.slice none 0 0), 1, 24) := by kernel_rfl

theorem owns_below {w w' : World} {B : Nat} {e : TypeId} {size : Nat} {v : Value} {n : Nat} {xs : List Value} (h : w.ownsRow B e size v n xs) (hb : Below w.heap.size w w') : w'.ownsRow B e size v n xs := by
  refine ⟨h.1, ?_⟩
  rcases h.2 with h1 | ⟨g, c, cur, h1, h2, h3, h4⟩
  · exact .inl h1
  · exact .inr ⟨g, c, cur, h1, h2, by rw [hb.block g (Array.getElem?_eq_some_iff.1 h3).1]; exact h3, h4⟩

/-- What the call of piece leaves, as a list apart from whatever was there before. -/
theorem apart_new {w w' : World} {r : Value} {l : List Int} (h : w'.ownsRow w.heap.size 3 1 r l.length (l.map (Value.int .i64))) (av : Option Nat) (hav : ∀ k, av = some k → k < w.heap.size) : ∃ A c, r = .slice A l.length c ∧ Apart w' A l av := by
  rcases h.2 with ⟨rfl, h0⟩ | ⟨g, c, cur, rfl, hb, hg, _⟩
  · obtain rfl : l = [] := List.eq_nil_of_length_eq_zero h0
    exact ⟨none, 0, rfl, Rd.nil _ _, fun x e => by cases e⟩
  · refine ⟨some ⟨g, 0, none⟩, c, rfl, rd_of_owns h, fun x e => ?_⟩
    cases e
    exact ⟨(Array.getElem?_eq_some_iff.1 hg).1, fun e => by have := hav g e.symm; omega⟩
theorem owns_lt {w : World} {B : Nat} {e : TypeId} {size : Nat} {v : Value} {n : Nat} {xs : List Value} (h : w.ownsRow B e size v n xs) : ∀ k, v.ownBlock = some k → k < w.heap.size := by
  intro k hk
  rcases h.2 with ⟨rfl, _⟩ | ⟨g, _, _, rfl, _, hg, _⟩
  · simp [Value.ownBlock] at hk
  · simp [Value.ownBlock] at hk; subst hk; exact (Array.getElem?_eq_some_iff.1 hg).1

theorem pc_eq {xs : List Int} {k p q : Nat} (hp : (marks xs).getD k 0 = p) (hq : (if k + 1 < (marks xs).length then ((marks xs).getD (k + 1) 0).toNat else xs.length) = q) : pc xs k = piece xs p q := by
  unfold pc; rw [hp, hq, Int.toNat_natCast]

end Go.Proofs.Ytdhehffdddbmbab
