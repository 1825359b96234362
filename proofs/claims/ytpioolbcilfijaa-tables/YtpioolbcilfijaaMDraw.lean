/-
  MDraw: plain mathematics of drawing in: from the left on what falls, from the right on what rises (P8, P13, P15). Nothing of the program: a list that is filled, and for each symbol where its next one goes.
-/
import Derived.Test.YtpioolbcilfijaaMBuck
namespace Go.Proofs.Ytpioolbcilfijaa

theorem set_at {l : List Int} {i : Nat} (h : i < l.length) (v : Int) : (l.set i v).getD i 0 = v := by simp [List.getD, h]
theorem set_not {l : List Int} {i j : Nat} (h : i ≠ j) (v : Int) : (l.set i v).getD j 0 = l.getD j 0 := by simp [List.getD, h]

/-! ### From the left on -/

/-- What is drawn in (D) and what lies there at the start (M): each has a place of its own (loc) in the list; what is drawn in stands behind its next one, and in its bucket behind those whose next ones stand ahead of its own next one. -/
structure Draws (n : Nat) (sy : Nat → Int) (D M : Nat → Bool) (loc : Nat → Nat) (bs : Int → Nat) : Prop where
  lt : ∀ p, p < n → D p = true ∨ M p = true → loc p < n
  inj : ∀ p q, p < n → q < n → D p = true ∨ M p = true → D q = true ∨ M q = true → loc p = loc q → p = q
  next : ∀ p, p + 1 < n → D p = true → (D (p + 1) = true ∨ M (p + 1) = true) ∧ loc (p + 1) < loc p
  last : ∀ p, p + 1 = n → D p = true ∧ loc p = bs (sy p)
  goes : ∀ p, p + 1 < n → D p = true → loc p = bs (sy p) + cnt n (fun q => decide (sy q = sy p) && D q && (decide (q + 1 = n) || decide (loc (q + 1) < loc (p + 1))))

/-- Drawn in by what stands ahead of i. -/
def dn (n : Nat) (loc : Nat → Nat) (i q : Nat) : Bool := decide (q + 1 = n) || decide (loc (q + 1) < i)

/-- The list and the buckets' heads when what stands ahead of i has been read. -/
structure DrawnL (n : Nat) (sy : Nat → Int) (D M : Nat → Bool) (loc : Nat → Nat) (bs : Int → Nat) (i : Nat) (arr : List Int) (hd : Int → Nat) : Prop where
  len : arr.length = n
  drawn : ∀ p, p < n → D p = true → dn n loc i p = true → arr.getD (loc p) 0 = p
  laid : ∀ p, p < n → M p = true → arr.getD (loc p) 0 = p
  free : ∀ j, j < n → 0 ≤ arr.getD j 0 → ∃ p, p < n ∧ arr.getD j 0 = (p : Int) ∧ loc p = j ∧ (M p = true ∨ D p = true ∧ dn n loc i p = true)
  head : ∀ c, hd c = bs c + cnt n (fun q => decide (sy q = c) && D q && dn n loc i q)

/-- One head is set one further. -/
def up (hd : Int → Nat) (c : Int) : Int → Nat := fun c' => if c' = c then hd c + 1 else hd c'
def down (hd : Int → Nat) (c : Int) : Int → Nat := fun c' => if c' = c then hd c - 1 else hd c'

section
variable {n : Nat} {sy : Nat → Int} {D M : Nat → Bool} {loc : Nat → Nat} {bs : Int → Nat} {i : Nat} {arr : List Int} {hd : Int → Nat}

/-- At the start: the marks lie there, then the last place is drawn in. -/
theorem DrawnL.start (h : Draws n sy D M loc bs) (hl : arr.length = n) (hM : ∀ p, p < n → M p = true → arr.getD (loc p) 0 = p) (hDM : ∀ p, p < n → D p = true → M p = false) (hF : ∀ j, j < n → 0 ≤ arr.getD j 0 → ∃ p, p < n ∧ arr.getD j 0 = (p : Int) ∧ loc p = j ∧ M p = true)
    (hh : ∀ c, hd c = bs c) {z : Nat} (hz : z + 1 = n) : DrawnL n sy D M loc bs 0 (arr.set (hd (sy z)) z) (up hd (sy z)) ∧ hd (sy z) < n := by
  obtain ⟨hDz, hlz⟩ := h.last z hz
  have hzn : z < n := by omega
  have hlt := h.lt z hzn (.inl hDz)
  have he : hd (sy z) = loc z := by rw [hh, hlz]
  have hdn : ∀ q, q < n → dn n loc 0 q = decide (q = z) := by
    intro q hq
    unfold dn
    rw [Bool.eq_iff_iff]; simp; omega
  refine ⟨⟨by simp [hl], ?_, ?_, ?_, ?_⟩, by omega⟩
  · intro p hp hD hd0
    rw [hdn p hp] at hd0
    obtain rfl : p = z := by simpa using hd0
    rw [he]; exact set_at (by omega) _
  · intro p hp hMp
    have hne : loc z ≠ loc p := fun e => by
      have := h.inj z p hzn hp (.inl hDz) (.inr hMp) e
      subst this
      rw [hDM z hzn hDz] at hMp; cases hMp
    rw [he, set_not hne]
    exact hM p hp hMp
  · intro j hj h0
    by_cases e : loc z = j
    · subst e
      refine ⟨z, hzn, ?_, rfl, .inr ⟨hDz, by rw [hdn z hzn]; simp⟩⟩
      rw [he]; exact set_at (by omega) _
    · rw [he, set_not e] at h0 ⊢
      obtain ⟨p, hp, h1, h2, h3⟩ := hF j hj h0
      exact ⟨p, hp, h1, h2, .inl h3⟩
  · intro c
    unfold up
    by_cases e : c = sy z
    · subst e
      rw [if_pos rfl, hh]
      rw [cnt_add (n := n) (p := z) (P := fun _ => false) (Q := fun q => decide (sy q = sy z) && D q && dn n loc 0 q) rfl (by simp [hDz, hdn z hzn]) hzn (fun q hq hne => by rw [hdn q hq]; simp [hne]), cnt_none (fun _ _ => rfl)]
    · rw [if_neg e, hh, cnt_none, Nat.add_zero]
      intro q hq
      rw [hdn q hq]
      by_cases e2 : q = z
      · subst e2; simp [show ¬ sy q = c from fun h => e h.symm]
      · simp [e2]

/-- Nothing to draw in: there stands nothing, or the text's first place, or one whose place ahead is not drawn in. -/
theorem DrawnL.skip (h : Draws n sy D M loc bs) (hI : DrawnL n sy D M loc bs i arr hd) (hn : ∀ p, p + 1 < n → arr.getD i 0 = ((p + 1 : Nat) : Int) → D p = false) : DrawnL n sy D M loc bs (i + 1) arr hd := by
  have hdn : ∀ q, q < n → D q = true → dn n loc (i + 1) q = dn n loc i q := by
    intro q hq hD
    unfold dn
    by_cases hl : q + 1 = n
    · simp [hl]
    · have hq1 : q + 1 < n := by omega
      have hne : loc (q + 1) ≠ i := by
        intro e
        obtain ⟨hc, hlt⟩ := h.next q hq1 hD
        have hat : arr.getD i 0 = ((q + 1 : Nat) : Int) := by
          rw [← e]
          rcases hc with hc | hc
          · refine hI.drawn (q + 1) hq1 hc ?_
            unfold dn
            by_cases hl2 : q + 1 + 1 = n
            · simp [hl2]
            · have := (h.next (q + 1) (by omega) hc).2
              simp; right; omega
          · exact hI.laid (q + 1) hq1 hc
        rw [hn q hq1 hat] at hD; cases hD
      rw [Bool.eq_iff_iff]; simp; omega
  refine ⟨hI.len, ?_, hI.laid, ?_, ?_⟩
  · intro p hp hD h1
    exact hI.drawn p hp hD (by rw [← hdn p hp hD]; exact h1)
  · intro j hj h0
    obtain ⟨p, hp, h1, h2, h3⟩ := hI.free j hj h0
    refine ⟨p, hp, h1, h2, ?_⟩
    rcases h3 with h3 | ⟨h3, h4⟩
    · exact .inl h3
    · exact .inr ⟨h3, by rw [hdn p hp h3]; exact h4⟩
  · intro c
    rw [hI.head c]
    congr 1
    refine cnt_congr (fun q hq => ?_)
    cases e : D q with
    | false => simp
    | true => rw [hdn q hq e]

/-- A place is drawn in. -/
theorem DrawnL.draw (h : Draws n sy D M loc bs) (hDM : ∀ p, p < n → D p = true → M p = false) (hI : DrawnL n sy D M loc bs i arr hd) (hi : i < n) {p : Nat} (hp1 : p + 1 < n) (hat : arr.getD i 0 = ((p + 1 : Nat) : Int)) (hD : D p = true) :
    DrawnL n sy D M loc bs (i + 1) (arr.set (hd (sy p)) p) (up hd (sy p)) ∧ hd (sy p) < n ∧ i < hd (sy p) := by
  have hp : p < n := by omega
  obtain ⟨r, hr, hr1, hr2, _⟩ := hI.free i hi (by rw [hat]; omega)
  obtain rfl : r = p + 1 := by omega
  have hgo := h.goes p hp1 hD
  have hlt := h.lt p hp (.inl hD)
  have hnx := (h.next p hp1 hD).2
  have he : hd (sy p) = loc p := by
    rw [hI.head, hgo, hr2]; rfl
  have hpn : dn n loc i p = false := by unfold dn; simp; omega
  have hdn : ∀ q, q < n → q ≠ p → D q = true → dn n loc (i + 1) q = dn n loc i q := by
    intro q hq hne hDq
    unfold dn
    by_cases hl : q + 1 = n
    · simp [hl]
    · have hq1 : q + 1 < n := by omega
      have hne : loc (q + 1) ≠ i := by
        intro e
        have := h.inj (q + 1) (p + 1) hq1 hp1 (h.next q hq1 hDq).1 (h.next p hp1 hD).1 (by omega)
        omega
      rw [Bool.eq_iff_iff]; simp; omega
  have hpn1 : dn n loc (i + 1) p = true := by unfold dn; simp; omega
  refine ⟨⟨by simp [hI.len], ?_, ?_, ?_, ?_⟩, by omega, by omega⟩
  · intro q hq hDq h1
    by_cases e : q = p
    · subst e; rw [he]; exact set_at (by rw [hI.len]; omega) _
    · have hne : loc p ≠ loc q := fun e2 => e (h.inj p q hp hq (.inl hD) (.inl hDq) e2).symm
      rw [he, set_not hne]
      exact hI.drawn q hq hDq (by rw [← hdn q hq e hDq]; exact h1)
  · intro q hq hMq
    have hne : loc p ≠ loc q := fun e2 => by
      have := h.inj p q hp hq (.inl hD) (.inr hMq) e2
      subst this
      rw [hDM p hp hD] at hMq; cases hMq
    rw [he, set_not hne]
    exact hI.laid q hq hMq
  · intro j hj h0
    by_cases e : loc p = j
    · subst e
      exact ⟨p, hp, by rw [he]; exact set_at (by rw [hI.len]; omega) _, rfl, .inr ⟨hD, hpn1⟩⟩
    · rw [he, set_not e] at h0 ⊢
      obtain ⟨q, hq, h1, h2, h3⟩ := hI.free j hj h0
      refine ⟨q, hq, h1, h2, ?_⟩
      rcases h3 with h3 | ⟨h3, h4⟩
      · exact .inl h3
      · refine .inr ⟨h3, ?_⟩
        have hne : q ≠ p := fun e2 => e (by rw [← e2]; exact h2)
        rw [hdn q hq hne h3]; exact h4
  · intro c
    unfold up
    by_cases e : c = sy p
    · subst e
      rw [if_pos rfl, hI.head]
      rw [cnt_add (n := n) (p := p) (P := fun q => decide (sy q = sy p) && D q && dn n loc i q) (Q := fun q => decide (sy q = sy p) && D q && dn n loc (i + 1) q) (by simp [hpn]) (by simp [hpn1, hD]) hp (fun q hq hne => by
        cases e3 : D q with
        | false => simp
        | true => rw [hdn q hq hne e3])]
      omega
    · rw [if_neg e, hI.head]
      congr 1
      refine cnt_congr (fun q hq => ?_)
      by_cases e2 : q = p
      · subst e2; simp [show ¬ sy q = c from fun h => e h.symm]
      · cases e3 : D q with
        | false => simp
        | true => rw [hdn q hq e2 e3]

/-- At the end all are drawn in. -/
theorem DrawnL.done (h : Draws n sy D M loc bs) (hI : DrawnL n sy D M loc bs i arr hd) (hi : n ≤ i) {p : Nat} (hp : p < n) (hD : D p = true) : arr.getD (loc p) 0 = p := by
  refine hI.drawn p hp hD ?_
  unfold dn
  by_cases hl : p + 1 = n
  · simp [hl]
  · have := h.lt (p + 1) (by omega) (h.next p (by omega) hD).1
    simp; omega

/-- What stands in the list is a place or less than 0. -/
theorem DrawnL.range (hI : DrawnL n sy D M loc bs i arr hd) {j : Nat} (hj : j < n) : arr.getD j 0 < n := by
  rcases Int.lt_or_le (arr.getD j 0) 0 with h0 | h0
  · omega
  · obtain ⟨p, hp, h1, _⟩ := hI.free j hj h0
    omega
end

/-! ### From the right on -/

/-- Each place has a place of its own (loc, of) in the list; what is drawn in (D) stands ahead of its next one, and in its bucket ahead of those whose next ones stand behind its own next one. -/
structure DrawsS (n : Nat) (sy : Nat → Int) (D : Nat → Bool) (loc oF : Nat → Nat) (be : Int → Nat) : Prop where
  lt : ∀ p, p < n → loc p < n
  oF_lt : ∀ i, i < n → oF i < n ∧ loc (oF i) = i
  inj : ∀ p q, p < n → q < n → loc p = loc q → p = q
  next : ∀ p, p < n → D p = true → p + 1 < n ∧ loc p < loc (p + 1)
  goes : ∀ p, p < n → D p = true → loc p + 1 + cnt n (fun q => decide (sy q = sy p) && D q && decide (loc (p + 1) < loc (q + 1))) = be (sy p)

/-- The list and the buckets' tails when what stands from i on has been read. -/
structure DrawnS (n : Nat) (sy : Nat → Int) (D : Nat → Bool) (loc : Nat → Nat) (be : Int → Nat) (i : Nat) (arr : List Int) (tl : Int → Nat) : Prop where
  len : arr.length = n
  there : ∀ p, p < n → D p = false → arr.getD (loc p) 0 = p
  drawn : ∀ p, p < n → D p = true → i ≤ loc (p + 1) → arr.getD (loc p) 0 = p
  tail : ∀ c, tl c + cnt n (fun q => decide (sy q = c) && D q && decide (i ≤ loc (q + 1))) = be c

section
variable {n : Nat} {sy : Nat → Int} {D : Nat → Bool} {loc oF : Nat → Nat} {be : Int → Nat} {i : Nat} {arr : List Int} {tl : Int → Nat}

theorem DrawnS.start (h : DrawsS n sy D loc oF be) (hl : arr.length = n) (hL : ∀ p, p < n → D p = false → arr.getD (loc p) 0 = p) (ht : ∀ c, tl c = be c) : DrawnS n sy D loc be n arr tl := by
  refine ⟨hl, hL, ?_, ?_⟩
  · intro p hp hD h1
    have := h.lt (p + 1) (h.next p hp hD).1
    omega
  · intro c
    rw [ht, cnt_none, Nat.add_zero]
    intro q hq
    cases e : D q with
    | false => simp
    | true =>
      have := h.lt (q + 1) (h.next q hq e).1
      simp; intro _; omega

/-- What is read is what stands there at the end. -/
theorem DrawnS.read (h : DrawsS n sy D loc oF be) (hI : DrawnS n sy D loc be (i + 1) arr tl) (hi : i < n) : arr.getD i 0 = oF i := by
  obtain ⟨h1, h2⟩ := h.oF_lt i hi
  cases e : D (oF i) with
  | false => have := hI.there (oF i) h1 e; rwa [h2] at this
  | true =>
    have := hI.drawn (oF i) h1 e (by have := (h.next (oF i) h1 e).2; omega)
    rwa [h2] at this

theorem DrawnS.skip (h : DrawsS n sy D loc oF be) (hI : DrawnS n sy D loc be (i + 1) arr tl) (hi : i < n) (hn : ∀ p, oF i = p + 1 → D p = false) : DrawnS n sy D loc be i arr tl := by
  obtain ⟨g1, g2⟩ := h.oF_lt i hi
  have hne : ∀ q, q < n → D q = true → loc (q + 1) ≠ i := by
    intro q hq hD e
    have := h.inj (oF i) (q + 1) g1 (h.next q hq hD).1 (by omega)
    rw [hn q this] at hD; cases hD
  refine ⟨hI.len, hI.there, ?_, ?_⟩
  · intro p hp hD h1
    have := hne p hp hD
    exact hI.drawn p hp hD (by omega)
  · intro c
    rw [← hI.tail c]
    congr 1
    refine cnt_congr (fun q hq => ?_)
    cases e : D q with
    | false => simp
    | true =>
      have := hne q hq e
      have : decide (i ≤ loc (q + 1)) = decide (i + 1 ≤ loc (q + 1)) := by rw [Bool.eq_iff_iff]; simp; omega
      rw [this]

theorem DrawnS.draw (h : DrawsS n sy D loc oF be) (hI : DrawnS n sy D loc be (i + 1) arr tl) (hi : i < n) {p : Nat} (hat : oF i = p + 1) (hD : D p = true) :
    DrawnS n sy D loc be i (arr.set (tl (sy p) - 1) p) (down tl (sy p)) ∧ 1 ≤ tl (sy p) ∧ tl (sy p) ≤ i := by
  obtain ⟨g1, g2⟩ := h.oF_lt i hi
  have hp : p < n := by omega
  rw [hat] at g2
  have hgo := h.goes p hp hD
  have hlt := h.lt p hp
  have hnx := (h.next p hp hD).2
  have he : tl (sy p) = loc p + 1 := by
    have h1 := hI.tail (sy p)
    rw [← hgo] at h1
    have h2 : cnt n (fun q => decide (sy q = sy p) && D q && decide (i + 1 ≤ loc (q + 1))) = cnt n (fun q => decide (sy q = sy p) && D q && decide (loc (p + 1) < loc (q + 1))) := by
      rw [g2]; rfl
    omega
  have he1 : tl (sy p) - 1 = loc p := by omega
  have hne : ∀ q, q < n → q ≠ p → D q = true → loc (q + 1) ≠ i := by
    intro q hq hqp hDq e
    have := h.inj (q + 1) (p + 1) (h.next q hq hDq).1 (by omega) (by omega)
    omega
  refine ⟨⟨by simp [hI.len], ?_, ?_, ?_⟩, by omega, by omega⟩
  · intro q hq hDq
    have : loc p ≠ loc q := fun e => by
      have := h.inj p q hp hq e
      subst this
      rw [hD] at hDq; cases hDq
    rw [he1, set_not this]
    exact hI.there q hq hDq
  · intro q hq hDq h1
    by_cases e : q = p
    · subst e; rw [he1]; exact set_at (by rw [hI.len]; omega) _
    · have h2 : loc p ≠ loc q := fun e2 => e (h.inj p q hp hq e2).symm
      have h3 := hne q hq e hDq
      rw [he1, set_not h2]
      exact hI.drawn q hq hDq (by omega)
  · intro c
    unfold down
    have hb := hI.tail c
    by_cases e : c = sy p
    · subst e
      rw [if_pos rfl]
      have := cnt_add (n := n) (p := p) (P := fun q => decide (sy q = sy p) && D q && decide (i + 1 ≤ loc (q + 1))) (Q := fun q => decide (sy q = sy p) && D q && decide (i ≤ loc (q + 1))) (by simp; intro _; omega) (by simp [hD]; omega) hp (fun q hq hqp => by
        cases e3 : D q with
        | false => simp
        | true =>
          have h4 := hne q hq hqp e3
          have : decide (i + 1 ≤ loc (q + 1)) = decide (i ≤ loc (q + 1)) := by rw [Bool.eq_iff_iff]; simp; omega
          rw [this])
      omega
    · rw [if_neg e, ← hb]
      congr 1
      refine cnt_congr (fun q hq => ?_)
      by_cases e2 : q = p
      · subst e2; simp [show ¬ sy q = c from fun h => e h.symm]
      · cases e3 : D q with
        | false => simp
        | true =>
          have h4 := hne q hq e2 e3
          have : decide (i ≤ loc (q + 1)) = decide (i + 1 ≤ loc (q + 1)) := by rw [Bool.eq_iff_iff]; simp; omega
          rw [this]

theorem DrawnS.done (_h : DrawsS n sy D loc oF be) (hI : DrawnS n sy D loc be 0 arr tl) {p : Nat} (hp : p < n) : arr.getD (loc p) 0 = p := by
  cases e : D p with
  | false => exact hI.there p hp e
  | true => exact hI.drawn p hp e (Nat.zero_le _)
end

end Go.Proofs.Ytpioolbcilfijaa
