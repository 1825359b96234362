/-
  MHeads: plain mathematics of drawing in with the buckets' heads in a list by the symbols' numbers; of pieces cut out of weights (P8, P12, P13). Nothing of the program.
-/
import Derived.Test.YtpioolbcilfijabMLaid
namespace Go.Proofs.Ytpioolbcilfijab

/-! ### Heads by the symbols' numbers -/

theorem list_range (l : List Int) : (List.range l.length).map (fun q => l.getD q 0) = l := by
  refine List.ext_getElem (by simp) (fun i h1 h2 => ?_)
  simp [List.getD, h2]
theorem countP_cnt (l : List Int) (P : Int → Bool) : l.countP P = cnt l.length (fun q => P (l.getD q 0)) := by
  unfold cnt
  conv => lhs; rw [← list_range l, List.countP_map]
  rfl

/-- The number of the symbol at p. -/
def dN (xs : List Int) (p : Nat) : Nat := ((dense xs).getD p 0).toNat
theorem dN_at (xs : List Int) (p : Nat) : (dense xs).getD p 0 = (dN xs p : Int) := by
  have := dense_nonneg xs p
  unfold dN; omega
theorem dN_lt {xs : List Int} {p : Nat} (hp : p < xs.length) : dN xs p < kinds xs := by
  have h : dN xs p = cl (dis xs) xs[p] := by simp [dN, dense, List.getD, hp]
  rw [h]
  unfold cl kinds
  refine Nat.lt_of_le_of_ne List.countP_le_length (fun e => ?_)
  have := List.countP_eq_length.1 e xs[p] ((mem_dis _ _).2 (List.getElem_mem hp))
  simp at this
theorem dN_lt_iff {xs : List Int} {p q : Nat} (hp : p < xs.length) (hq : q < xs.length) : dN xs p < dN xs q ↔ sy xs p < sy xs q := by
  rw [sy_at hp, sy_at hq, ← dense_lt hp hq, dN_at, dN_at]; omega
theorem dN_eq_iff {xs : List Int} {p q : Nat} (hp : p < xs.length) (hq : q < xs.length) : dN xs p = dN xs q ↔ sy xs p = sy xs q := by
  rw [sy_at hp, sy_at hq, ← dense_eq hp hq, dN_at, dN_at]; omega

structure Heads (xs hs : List Int) (hd : Int → Nat) : Prop where
  len : kinds xs ≤ hs.length
  at' : ∀ p, p < xs.length → hs.getD (dN xs p) 0 = (hd (sy xs p) : Int)

theorem Heads.lt {xs hs : List Int} {hd : Int → Nat} (h : Heads xs hs hd) {p : Nat} (hp : p < xs.length) : dN xs p < hs.length := Nat.lt_of_lt_of_le (dN_lt hp) h.len
theorem Heads.up {xs hs : List Int} {hd : Int → Nat} (h : Heads xs hs hd) {p : Nat} (hp : p < xs.length) : Heads xs (hs.set (dN xs p) ((hd (sy xs p) : Int) + 1)) (up hd (sy xs p)) := by
  refine ⟨by simpa using h.len, fun q hq => ?_⟩
  unfold Go.Proofs.Ytpioolbcilfijab.up
  by_cases e : sy xs q = sy xs p
  · rw [if_pos e, (dN_eq_iff hq hp).2 e, set_at (h.lt hp)]; simp
  · have : dN xs p ≠ dN xs q := fun e2 => e ((dN_eq_iff hp hq).1 e2).symm
    rw [if_neg e, set_not this, h.at' q hq]
theorem Heads.down {xs hs : List Int} {hd : Int → Nat} (h : Heads xs hs hd) {p : Nat} (hp : p < xs.length) {z : Nat} (hz : hd (sy xs p) = z + 1) : Heads xs (hs.set (dN xs p) (z : Int)) (down hd (sy xs p)) := by
  refine ⟨by simpa using h.len, fun q hq => ?_⟩
  unfold Go.Proofs.Ytpioolbcilfijab.down
  by_cases e : sy xs q = sy xs p
  · rw [if_pos e, (dN_eq_iff hq hp).2 e, set_at (h.lt hp), hz]; simp
  · have : dN xs p ≠ dN xs q := fun e2 => e ((dN_eq_iff hp hq).1 e2).symm
    rw [if_neg e, set_not this, h.at' q hq]

theorem buckets_at {xs : List Int} {c : Nat} (hc : c ≤ kinds xs) : (buckets xs).getD c 0 = (cnt xs.length (fun q => decide (dN xs q < c)) : Int) := by
  have h1 : (buckets xs).getD c 0 = (cl (dense xs) c : Int) := by simp [buckets, List.getD, show c < kinds xs + 1 by omega]
  rw [h1]
  unfold cl
  rw [countP_cnt, dense_length]
  congr 1
  refine cnt_congr (fun q _ => ?_)
  rw [dN_at, Bool.eq_iff_iff]; simp
theorem Heads.starts (xs : List Int) : Heads xs (buckets xs) (bs xs) := by
  refine ⟨by rw [buckets_length]; omega, fun p hp => ?_⟩
  rw [buckets_at (Nat.le_of_lt (dN_lt hp))]
  unfold bs
  congr 1
  refine cnt_congr (fun q hq => ?_)
  rw [Bool.eq_iff_iff]; simp [dN_lt_iff hq hp]
theorem Heads.ends (xs : List Int) : Heads xs ((buckets xs).drop 1) (be xs) := by
  refine ⟨by rw [List.length_drop, buckets_length]; omega, fun p hp => ?_⟩
  have h1 : ((buckets xs).drop 1).getD (dN xs p) 0 = (buckets xs).getD (dN xs p + 1) 0 := by simp [List.getD, Nat.add_comm]
  rw [h1, buckets_at (dN_lt hp)]
  unfold be
  congr 1
  refine cnt_congr (fun q hq => ?_)
  have := dN_lt_iff hp hq
  rw [Bool.eq_iff_iff]; simp; omega

/-! ### Marks are laid -/

def low (l : List Int) : Prop := ∀ j, -1 ≤ l.getD j 0
theorem low.set {l : List Int} (h : low l) (i p : Nat) : low (l.set i (p : Int)) := by
  intro j
  by_cases e : i = j
  · subst e
    by_cases hi : i < l.length
    · rw [set_at hi]; omega
    · rw [List.set_eq_of_length_le (by omega)]; exact h i
  · rw [set_not e]; exact h j
theorem low.free (n : Nat) : low (List.replicate n (-1)) := by
  intro j
  by_cases h : j < n
  · simp [List.getD, h]
  · simp [List.getD, h]

structure Lay (xs L : List Int) (i : Nat) (arr ends : List Int) : Prop where
  low : low arr
  ex : ∃ tl, Heads xs ends tl ∧ Laid xs.length (sy xs) (isMark xs) (locF xs L) (rM xs) (be xs) i arr tl

section
variable {xs L : List Int} (hO : Ord xs L)
include hO

theorem Lay.start : Lay xs L (ordMarks xs L).length (List.replicate xs.length (-1)) ((buckets xs).drop 1) :=
  ⟨low.free _, be xs, Heads.ends xs, Laid.start (lays_final hO) (by simp) (fun j hj => by simp [List.getD, hj]) (fun _ => rfl)⟩
theorem Lay.lay {i : Nat} {arr ends : List Int} (h : Lay xs L (i + 1) arr ends) {p : Nat} (hi : i < (ordMarks xs L).length) (hp : (ordMarks xs L).getD i 0 = (p : Int)) :
    p < xs.length ∧ dN xs p < ends.length ∧ ∃ z : Nat, ends.getD (dN xs p) 0 = (z : Int) + 1 ∧ z < xs.length ∧ z < arr.length ∧ Lay xs L i (arr.set z p) (ends.set (dN xs p) z) := by
  obtain ⟨hlow, tl, hH, hI⟩ := h
  have hpn : p < xs.length := by
    have := ((lays_final hO).mk_lt i hi).1
    simp only [hp, Int.toNat_natCast] at this
    exact this
  obtain ⟨h1, h2, h3⟩ := hI.lay (lays_final hO) hi (p := p) (by rw [hp, Int.toNat_natCast])
  obtain ⟨z, hz⟩ : ∃ z, tl (sy xs p) = z + 1 := ⟨tl (sy xs p) - 1, by omega⟩
  refine ⟨hpn, hH.lt hpn, z, by rw [hH.at' p hpn, hz]; rfl, by omega, by rw [hI.len]; omega, hlow.set _ _, down tl (sy xs p), hH.down hpn hz, ?_⟩
  rw [show z = tl (sy xs p) - 1 by omega]; exact h1

/-! ### The L are drawn in from the left -/

/-- Where an L stands in the first list it stands in the second. -/
def Fol (D : Nat → Bool) (a b : List Int) : Prop := a.length = b.length ∧ ∀ j p : Nat, j < a.length → D p = true → a.getD j 0 = (p : Int) → b.getD j 0 = (p : Int)
omit hO in
theorem Fol.set {D : Nat → Bool} {a b : List Int} (h : Fol D a b) (i : Nat) (v : Int) : Fol D (a.set i v) (b.set i v) := by
  refine ⟨by simp [h.1], fun j p hj hD hp => ?_⟩
  rw [List.length_set] at hj
  by_cases e : i = j
  · subst e
    rw [set_at hj] at hp
    rw [set_at (by rw [← h.1]; exact hj), hp]
  · rw [set_not e] at hp ⊢
    exact h.2 j p hj hD hp

structure Fall (xs L : List Int) (t : Nat) (kn fa hs : List Int) : Prop where
  fol : Fol (gt xs) kn fa
  len : kn.length = xs.length
  low : low kn
  ex : ∃ hd, Heads xs hs hd ∧ ((t = 0 ∧ (∀ c, hd c = bs xs c) ∧ (∀ p, p < xs.length → isMark xs p = true → kn.getD (locF xs L p) 0 = p) ∧ (∀ j, j < xs.length → 0 ≤ kn.getD j 0 → ∃ p, p < xs.length ∧ kn.getD j 0 = (p : Int) ∧ locF xs L p = j ∧ isMark xs p = true)) ∨ ∃ i, t = i + 1 ∧ DrawnL xs.length (sy xs) (gt xs) (isMark xs) (locF xs L) (bs xs) i kn hd)

omit hO in
theorem gt_mark {p : Nat} (h : gt xs p = true) : isMark xs p = false := by
  cases e : isMark xs p with
  | false => rfl
  | true => rw [mark_not e] at h; cases h

theorem Fall.start {kn ends : List Int} (h : Lay xs L 0 kn ends) : Fall xs L 0 kn (List.replicate xs.length (-1)) (buckets xs) := by
  have := hO
  obtain ⟨hlow, tl, -, hI⟩ := h
  refine ⟨⟨by simp [hI.len], fun j p hj hD hp => ?_⟩, hI.len, hlow, bs xs, Heads.starts xs, .inl ⟨rfl, fun _ => rfl, fun p hp hM => hI.laid p hp hM (Nat.zero_le _), fun j hj h0 => ?_⟩⟩
  · rw [hI.len] at hj
    obtain ⟨q, hq, h1, _, h3, _⟩ := hI.free j hj (by rw [hp]; omega)
    obtain rfl : p = q := by rw [hp] at h1; omega
    rw [gt_mark hD] at h3; cases h3
  · obtain ⟨q, hq, h1, h2, h3, _⟩ := hI.free j hj h0
    exact ⟨q, hq, h1, h2, h3⟩
theorem Fall.none {kn fa hs : List Int} (h : Fall xs L 0 kn fa hs) (hn : xs.length = 0) : Fall xs L 1 kn fa hs := by
  obtain ⟨h1, h2, h3, hd, hH, hc⟩ := h
  have := hO
  rcases hc with ⟨_, hb, _, _⟩ | ⟨i, hi, _⟩
  · refine ⟨h1, h2, h3, hd, hH, .inr ⟨0, rfl, ⟨h2, fun p hp => by omega, fun p hp => by omega, fun j hj => by omega, fun c => ?_⟩⟩⟩
    rw [hb, hn]; rfl
  · omega
theorem Fall.first {kn fa hs : List Int} (h : Fall xs L 0 kn fa hs) {p : Nat} (hp : p + 1 = xs.length) :
    dN xs p < hs.length ∧ ∃ z : Nat, hs.getD (dN xs p) 0 = (z : Int) ∧ z < xs.length ∧ z < kn.length ∧ z < fa.length ∧ Fall xs L 1 (kn.set z p) (fa.set z p) (hs.set (dN xs p) ((z : Int) + 1)) := by
  obtain ⟨h1, h2, h3, hd, hH, hc⟩ := h
  have hpn : p < xs.length := by omega
  rcases hc with ⟨_, hb, hM, hF⟩ | ⟨i, hi, _⟩
  · obtain ⟨g1, g2⟩ := DrawnL.start (draws_final hO) h2 hM (fun q _ hq => gt_mark hq) hF hb hp
    refine ⟨hH.lt hpn, hd (sy xs p), hH.at' p hpn, g2, by omega, by rw [← h1.1]; omega, h1.set _ _, by simp [h2], h3.set _ _, up hd (sy xs p), hH.up hpn, .inr ⟨0, rfl, g1⟩⟩
  · omega
theorem Fall.skip {i : Nat} {kn fa hs : List Int} (h : Fall xs L (i + 1) kn fa hs) (hn : ∀ p, p + 1 < xs.length → kn.getD i 0 = ((p + 1 : Nat) : Int) → gt xs p = false) : Fall xs L (i + 2) kn fa hs := by
  obtain ⟨h1, h2, h3, hd, hH, hc⟩ := h
  rcases hc with ⟨h0, _⟩ | ⟨i', hi, hI⟩
  · omega
  · obtain rfl : i = i' := by omega
    exact ⟨h1, h2, h3, hd, hH, .inr ⟨i + 1, rfl, hI.skip (draws_final hO) hn⟩⟩
theorem Fall.draw {i : Nat} {kn fa hs : List Int} (h : Fall xs L (i + 1) kn fa hs) (hi : i < xs.length) {p : Nat} (hp1 : p + 1 < xs.length) (hat : kn.getD i 0 = ((p + 1 : Nat) : Int)) (hD : gt xs p = true) :
    dN xs p < hs.length ∧ ∃ z : Nat, hs.getD (dN xs p) 0 = (z : Int) ∧ z < xs.length ∧ z < kn.length ∧ z < fa.length ∧ Fall xs L (i + 2) (kn.set z p) (fa.set z p) (hs.set (dN xs p) ((z : Int) + 1)) := by
  obtain ⟨h1, h2, h3, hd, hH, hc⟩ := h
  have hpn : p < xs.length := by omega
  rcases hc with ⟨h0, _⟩ | ⟨i', hi', hI⟩
  · omega
  · obtain rfl : i = i' := by omega
    obtain ⟨g1, g2, _⟩ := hI.draw (draws_final hO) (fun q _ hq => gt_mark hq) hi hp1 hat hD
    refine ⟨hH.lt hpn, hd (sy xs p), hH.at' p hpn, g2, by omega, by rw [← h1.1]; omega, h1.set _ _, by simp [h2], h3.set _ _, up hd (sy xs p), hH.up hpn, .inr ⟨i + 1, rfl, g1⟩⟩
theorem Fall.range {i : Nat} {kn fa hs : List Int} (h : Fall xs L (i + 1) kn fa hs) {j : Nat} (hj : j < xs.length) : -1 ≤ kn.getD j 0 ∧ kn.getD j 0 < xs.length := by
  have := hO
  obtain ⟨h1, h2, h3, hd, hH, hc⟩ := h
  rcases hc with ⟨h0, _⟩ | ⟨i', hi', hI⟩
  · omega
  · exact ⟨h3 j, hI.range hj⟩
theorem Fall.done {i : Nat} {kn fa hs : List Int} (h : Fall xs L (i + 1) kn fa hs) (hi : xs.length ≤ i) : fa.length = xs.length ∧ ∀ p, p < xs.length → gt xs p = true → fa.getD (ps L p) 0 = (p : Int) := by
  obtain ⟨h1, h2, h3, hd, hH, hc⟩ := h
  refine ⟨by rw [← h1.1, h2], fun p hp hD => ?_⟩
  rcases hc with ⟨h0, _⟩ | ⟨i', hi', hI⟩
  · omega
  · obtain rfl : i = i' := by omega
    have h4 := hI.done (draws_final hO) hi hp hD
    rw [locF_L hO hD] at h4
    exact h1.2 _ p (by rw [h2]; exact ps_lt hO hp) hD h4

/-! ### What is no L is drawn in from the right -/

structure Rise (xs L : List Int) (i : Nat) (arr ends : List Int) : Prop where
  len : arr.length = xs.length
  ex : ∃ tl, Heads xs ends tl ∧ DrawnS xs.length (sy xs) (fun p => !gt xs p) (ps L) (be xs) i arr tl

theorem Rise.start {fa : List Int} (hl : fa.length = xs.length) (h : ∀ p, p < xs.length → gt xs p = true → fa.getD (ps L p) 0 = (p : Int)) : Rise xs L xs.length fa ((buckets xs).drop 1) :=
  ⟨hl, be xs, Heads.ends xs, DrawnS.start (drawsS_final hO) hl (fun p hp hD => h p hp (by simpa using hD)) (fun _ => rfl)⟩
theorem Rise.read {i : Nat} {arr ends : List Int} (h : Rise xs L (i + 1) arr ends) (hi : i < xs.length) : ∃ o : Nat, arr.getD i 0 = (o : Int) ∧ o < xs.length := by
  obtain ⟨_, tl, _, hI⟩ := h
  exact ⟨_, hI.read (drawsS_final hO) hi, ((drawsS_final hO).oF_lt i hi).1⟩
theorem Rise.skip {i : Nat} {arr ends : List Int} (h : Rise xs L (i + 1) arr ends) (hi : i < xs.length) (hn : ∀ p : Nat, arr.getD i 0 = ((p + 1 : Nat) : Int) → gt xs p = true) : Rise xs L i arr ends := by
  obtain ⟨hl, tl, hH, hI⟩ := h
  refine ⟨hl, tl, hH, hI.skip (drawsS_final hO) hi (fun p hp => ?_)⟩
  rw [hn p (by rw [hI.read (drawsS_final hO) hi, hp])]; rfl
theorem Rise.draw {i : Nat} {arr ends : List Int} (h : Rise xs L (i + 1) arr ends) (hi : i < xs.length) {p : Nat} (hat : arr.getD i 0 = ((p + 1 : Nat) : Int)) (hD : gt xs p = false) :
    p < xs.length ∧ dN xs p < ends.length ∧ ∃ z : Nat, ends.getD (dN xs p) 0 = (z : Int) + 1 ∧ z < xs.length ∧ z < arr.length ∧ Rise xs L i (arr.set z p) (ends.set (dN xs p) z) := by
  obtain ⟨hl, tl, hH, hI⟩ := h
  have hr := hI.read (drawsS_final hO) hi
  have ho : (L.getD i 0).toNat = p + 1 := by rw [hr] at hat; omega
  have hlt := ((drawsS_final hO).oF_lt i hi).1
  have hpn : p < xs.length := by simp only [ho] at hlt; omega
  obtain ⟨g1, g2, g3⟩ := hI.draw (drawsS_final hO) hi (p := p) ho (by rw [hD]; rfl)
  obtain ⟨z, hz⟩ : ∃ z, tl (sy xs p) = z + 1 := ⟨tl (sy xs p) - 1, by omega⟩
  refine ⟨hpn, hH.lt hpn, z, by rw [hH.at' p hpn, hz]; rfl, by omega, by omega, by simp [hl], down tl (sy xs p), hH.down hpn hz, ?_⟩
  rw [show z = tl (sy xs p) - 1 by omega]; exact g1
theorem Rise.done {arr ends : List Int} (h : Rise xs L 0 arr ends) : arr = L := by
  obtain ⟨_, tl, _, hI⟩ := h
  exact drawn_order hO hI
end

/-! ### Pieces cut out of weights -/

def inc (l : List Int) : List Int := l.map (fun x => x + 1)
theorem inc_length (l : List Int) : (inc l).length = l.length := by simp [inc]
theorem lt_inc : ∀ a b : List Int, lt (inc a) (inc b) = lt a b
  | [], b => by rw [show inc [] = [] from rfl, lt_nil, lt_nil, inc_length]
  | a :: r, [] => by rw [show inc [] = [] from rfl, lt_to_nil, lt_to_nil]
  | a :: r, b :: s => by
    show lt ((a + 1) :: inc r) ((b + 1) :: inc s) = _
    rw [lt_cons, lt_cons, lt_inc r s]
    by_cases h : a = b
    · rw [if_pos h, if_pos (by omega)]
    · rw [if_neg h, if_neg (by omega), Bool.eq_iff_iff]; simp
theorem inc_inj {a b : List Int} : inc a = inc b ↔ a = b := by
  refine ⟨fun h => ?_, fun h => by rw [h]⟩
  exact List.map_inj_right (fun x y h => by omega) |>.1 h

theorem full_drop {xs : List Int} : ∀ p, p ≤ xs.length → full xs p = (full xs 0).drop p
  | 0, _ => rfl
  | p + 1, h => by
    have ih := full_drop (xs := xs) p (by omega)
    rw [full_cons (show p < xs.length by omega)] at ih
    rw [← List.drop_drop, ← ih]
    rfl
theorem full_length (xs : List Int) : (full xs 0).length = xs.length + 1 := by simp [full, pieceTo]

/-- For each place twice its symbol's number and 1, or 2 where it is no L; at last 0. -/
def wts (xs : List Int) : List Int := inc (full xs 0)
theorem wts_length (xs : List Int) : (wts xs).length = xs.length + 1 := by rw [wts, inc_length, full_length]
/-- A mark's piece, each number one greater. -/
def ic (xs : List Int) (i : Nat) : List Int := inc (pc xs i)
theorem ic_length {xs : List Int} {i : Nat} (h : i < (marks xs).length) : (ic xs i).length = nx xs i + 1 - mk xs i := by
  have h1 := mk_nx h
  rw [ic, inc_length, pc_mk, piece_length (by omega) (mk_lt h).1 h1.2]
theorem ic_cut {xs : List Int} {i : Nat} (h : i < (marks xs).length) : ic xs i = ((wts xs).drop (mk xs i)).take (nx xs i + 1 - mk xs i) := by
  have h1 := mk_nx h
  rw [ic, pc_mk, piece_take (by omega) (mk_lt h).1 h1.2, full_drop _ (by omega)]
  unfold wts inc
  rw [List.map_take, List.map_drop]

/-- The weights while they are made. -/
structure Wt (xs ds : List Int) (n : Nat) : Prop where
  len : ds.length = xs.length
  did : ∀ j, j < n → j < xs.length → ds.getD j 0 = code xs j + 1
  yet : ∀ j, n ≤ j → ds.getD j 0 = (dense xs).getD j 0
theorem Wt.start (xs : List Int) : Wt xs (dense xs) 0 := ⟨dense_length xs, fun j h => by omega, fun _ _ => rfl⟩
theorem Wt.step {xs ds : List Int} {n : Nat} (h : Wt xs ds n) (hn : n < xs.length) {v : Int} (hv : v = code xs n + 1) : Wt xs (ds.set n v) (n + 1) := by
  refine ⟨by simp [h.len], fun j h1 h2 => ?_, fun j h1 => ?_⟩
  · by_cases e : n = j
    · subst e; rw [set_at (by rw [h.len]; exact hn), hv]
    · rw [set_not e]; exact h.did j (by omega) h2
  · rw [set_not (by omega)]; exact h.yet j (by omega)
theorem Wt.done {xs ds : List Int} {n : Nat} (h : Wt xs ds n) (hn : xs.length ≤ n) : ds ++ [0] = wts xs := by
  refine List.ext_getElem (by rw [wts_length]; simp [h.len]) (fun i h1 h2 => ?_)
  rw [wts_length] at h2
  have hf : (wts xs)[i]'(by rw [wts_length]; exact h2) = (full xs 0).getD i 0 + 1 := by
    simp only [wts, inc, List.getElem_map]
    rw [List.getD, List.getElem?_eq_getElem (by rw [full_length]; exact h2), Option.getD_some]
  rw [hf]
  rcases Nat.lt_or_ge i xs.length with hi | hi
  · rw [List.getElem_append_left (by rw [h.len]; exact hi)]
    have := h.did i (by omega) hi
    rw [List.getD, List.getElem?_eq_getElem (by rw [h.len]; exact hi), Option.getD_some] at this
    rw [this]
    congr 1
    simp [full, pieceTo, List.getD, List.getElem?_append, hi]
  · have e : i = xs.length := by omega
    subst e
    rw [List.getElem_append_right (by rw [h.len]; exact Nat.le_refl _)]
    simp [full, pieceTo, List.getD, h.len]

/-! ### Each piece once -/

def dif (xs : List Int) (n : Nat) : List (List Int) := ((List.range n).filter (fun m => !hadTo xs m m)).map (ic xs)
theorem dif_succ (xs : List Int) (n : Nat) : dif xs (n + 1) = dif xs n ++ if hadTo xs n n = true then [] else [ic xs n] := by
  unfold dif
  rw [List.range_succ, List.filter_append, List.map_append]
  congr 1
  cases h : hadTo xs n n <;> simp [h]
theorem dif_length_le (xs : List Int) (n : Nat) : (dif xs n).length ≤ n := by
  have := List.length_filter_le (fun m => !hadTo xs m m) (List.range n)
  simpa [dif] using this
theorem dif_mem {xs : List Int} {n : Nat} : ic xs n ∈ dif xs n ↔ hadTo xs n n = true := by
  unfold dif
  rw [List.mem_map]
  constructor
  · rintro ⟨m, hm, he⟩
    rw [List.mem_filter, List.mem_range] at hm
    cases e : hadTo xs n n with
    | true => rfl
    | false => exact absurd (inc_inj.1 he) (hadTo_false.1 e m hm.1)
  · intro h
    have h1 : ∃ m, m < n ∧ pc xs m = pc xs n := by
      apply Classical.byContradiction
      intro hno
      rw [hadTo_false.2 (fun m hm he => hno ⟨m, hm, he⟩)] at h; cases h
    obtain ⟨m, hm, he⟩ := h1
    obtain ⟨k, hk, he2, hh⟩ := first_had (xs := xs) m
    refine ⟨k, ?_, by unfold ic; rw [he2, he]⟩
    rw [List.mem_filter, List.mem_range, hh]
    exact ⟨by omega, rfl⟩
theorem dif_count (xs : List Int) (i : Nat) : (dif xs (marks xs).length).countP (fun l => lt l (ic xs i)) = nm xs i := by
  unfold dif nm nameCnt
  rw [List.countP_map, List.countP_filter]
  refine List.countP_congr (fun q _ => ?_)
  simp [ic, lt_inc]

end Go.Proofs.Ytpioolbcilfijab
