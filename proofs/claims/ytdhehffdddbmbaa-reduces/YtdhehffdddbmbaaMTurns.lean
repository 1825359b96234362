/-
  MTurns: plain mathematics of the way by turns, as the program goes it: the turns by their places, laid by their first two symbols; then all others (P14, P15). Nothing of the program.
-/
import Derived.Test.YtdhehffdddbmbaaMDrawn
namespace Go.Proofs.Ytdhehffdddbmbaa

/-! ### The turns by their places -/

def tpTo (xs : List Int) (n : Nat) : List Int := ((List.range n).filter (isTurn xs)).map (fun i : Nat => (i : Int))
def tp (xs : List Int) : List Int := tpTo xs xs.length
theorem tpTo_succ (xs : List Int) (n : Nat) : tpTo xs (n + 1) = tpTo xs n ++ if isTurn xs n = true then [(n : Int)] else [] := by
  unfold tpTo
  rw [List.range_succ, List.filter_append, List.map_append]
  congr 1
  by_cases h : isTurn xs n = true
  · simp [h]
  · simp [h]
theorem tpTo_length_le (xs : List Int) (n : Nat) : (tpTo xs n).length ≤ n := by
  have := List.length_filter_le (isTurn xs) (List.range n)
  simpa [tpTo] using this
theorem tp_length_le (xs : List Int) : (tp xs).length ≤ xs.length := tpTo_length_le xs xs.length
theorem tp_last {xs : List Int} {n : Nat} (h1 : n ≤ xs.length) (h2 : xs.length ≤ n + 1) : tpTo xs n = tp xs := by
  unfold tp
  rcases Nat.lt_or_ge n xs.length with h | h
  · have e : xs.length = n + 1 := by omega
    rw [e, tpTo_succ, if_neg, List.append_nil]
    intro ht
    have := (turn_iff.1 ht).2.2
    omega
  · rw [show n = xs.length by omega]
theorem mem_tp {xs : List Int} {x : Int} : x ∈ tp xs ↔ (0 ≤ x ∧ x < xs.length) ∧ isTurn xs x.toNat = true := by
  unfold tp tpTo
  rw [List.mem_map]
  constructor
  · rintro ⟨p, hp, rfl⟩
    rw [List.mem_filter, List.mem_range] at hp
    exact ⟨⟨by omega, by omega⟩, hp.2⟩
  · rintro ⟨h, ht⟩
    refine ⟨x.toNat, ?_, by omega⟩
    rw [List.mem_filter, List.mem_range]
    exact ⟨by omega, ht⟩
theorem tp_nodup (xs : List Int) : (tp xs).Nodup := by
  unfold tp tpTo
  refine List.Pairwise.map (R := (· < ·)) _ ?_ ((List.pairwise_lt_range (n := xs.length)).filter _)
  intro a b h
  show (a : Int) ≠ b
  omega
theorem getD_mem {l : List Int} {i : Nat} (h : i < l.length) : l.getD i 0 ∈ l := by
  rw [List.getD, List.getElem?_eq_getElem h]; exact List.getElem_mem _
theorem tp_at {xs : List Int} {i : Nat} (h : i < (tp xs).length) : ∃ p : Nat, (tp xs).getD i 0 = (p : Int) ∧ p < xs.length ∧ isTurn xs p = true := by
  have hm := mem_tp.1 (getD_mem h)
  exact ⟨((tp xs).getD i 0).toNat, by omega, by omega, hm.2⟩

/-- The turns in the order of their suffixes. -/
def oT (xs L : List Int) : List Int := turnsTo xs L xs.length

section
variable {xs L : List Int} (hO : Ord xs L)
include hO

theorem oT_filter : oT xs L = L.filter (fun p => isTurn xs p.toNat) := by
  unfold oT turnsTo
  rw [List.take_of_length_le (by rw [OrdTo.length hO]; exact Nat.le_refl _)]
theorem mem_oT {x : Int} : x ∈ oT xs L ↔ (0 ≤ x ∧ x < xs.length) ∧ isTurn xs x.toNat = true := by
  rw [oT_filter hO, List.mem_filter, hO.2 x]
theorem oT_sorted : (oT xs L).Pairwise (sl xs) := by rw [oT_filter hO]; exact hO.1.filter _
theorem tp_perm : (tp xs).Perm (oT xs L) := by
  rw [List.perm_ext_iff_of_nodup (tp_nodup xs) (sl_nodup (oT_sorted hO))]
  intro x
  rw [mem_tp, mem_oT hO]
theorem oT_length : (oT xs L).length = (tp xs).length := (tp_perm hO).length_eq.symm
theorem oT_at {i : Nat} (h : i < (oT xs L).length) : ∃ p : Nat, (oT xs L).getD i 0 = (p : Int) ∧ p < xs.length ∧ isTurn xs p = true := by
  have hm := (mem_oT hO).1 (getD_mem h)
  exact ⟨((oT xs L).getD i 0).toNat, by omega, by omega, hm.2⟩
end

/-- How many turns are lesser. -/
def tk (xs : List Int) (p : Nat) : Nat := (tp xs).countP (fun q => lt (xs.drop q.toNat) (xs.drop p))
def tK (xs : List Int) : List Int := (tp xs).map (fun t => (tk xs t.toNat : Int))
theorem tK_at {xs : List Int} {i p : Nat} (h : i < (tp xs).length) (hp : (tp xs).getD i 0 = (p : Int)) : (tK xs).getD i 0 = (tk xs p : Int) := by
  have e : (tK xs).getD i 0 = (tk xs ((tp xs).getD i 0).toNat : Int) := by simp [tK, List.getD, h]
  rw [e, hp, Int.toNat_natCast]

section
variable {xs L : List Int} (hO : Ord xs L)
include hO

theorem tk_oT {k : Nat} (hk : k < (oT xs L).length) : tk xs ((oT xs L).getD k 0).toNat = k := by
  unfold tk
  rw [(tp_perm hO).countP_eq]
  exact countP_sorted (oT_sorted hO) hk
theorem tp_pos {i : Nat} (hi : i < (tp xs).length) : ∃ k, k < (tp xs).length ∧ (oT xs L)[k]? = some ((tp xs).getD i 0) ∧ (tK xs).getD i 0 = (k : Int) := by
  have hm : (tp xs).getD i 0 ∈ oT xs L := (tp_perm hO).mem_iff.1 (getD_mem hi)
  obtain ⟨k, hk, he⟩ := List.getElem_of_mem hm
  refine ⟨k, by rw [← oT_length hO]; exact hk, by rw [List.getElem?_eq_getElem hk, he], ?_⟩
  obtain ⟨p, hp, -, -⟩ := tp_at hi
  rw [tK_at hi hp]
  have := tk_oT hO hk
  rw [List.getD, List.getElem?_eq_getElem hk, Option.getD_some, he, hp, Int.toNat_natCast] at this
  rw [this]
theorem tK_plc : Plc (tp xs).length (tK xs) := by
  refine ⟨by simp [tK], fun i hi => ?_, fun i j hi hj he => ?_, fun p hp => ?_⟩
  · obtain ⟨k, hk, -, e⟩ := tp_pos hO hi
    omega
  · obtain ⟨k, hk, a1, e1⟩ := tp_pos hO hi
    obtain ⟨k', hk', a2, e2⟩ := tp_pos hO hj
    obtain rfl : k = k' := by omega
    rw [a1] at a2
    have a3 : (tp xs).getD i 0 = (tp xs).getD j 0 := by simpa using a2
    rw [List.getD, List.getD, List.getElem?_eq_getElem hi, List.getElem?_eq_getElem hj, Option.getD_some, Option.getD_some] at a3
    exact (List.getElem_inj (tp_nodup xs)).1 a3
  · have hp' : p < (oT xs L).length := by rw [oT_length hO]; exact hp
    have hm : (oT xs L).getD p 0 ∈ tp xs := (tp_perm hO).mem_iff.2 (getD_mem hp')
    obtain ⟨i, hi, he⟩ := List.getElem_of_mem hm
    refine ⟨i, hi, ?_⟩
    obtain ⟨q, hq, -, -⟩ := tp_at hi
    rw [tK_at hi hq]
    have := tk_oT hO hp'
    rw [← he] at this
    rw [List.getD, List.getElem?_eq_getElem hi, Option.getD_some] at hq
    rw [hq, Int.toNat_natCast] at this
    rw [this]
theorem tK_lt {i p : Nat} (hi : i < (tp xs).length) (hp : (tp xs).getD i 0 = (p : Int)) : tk xs p < (tp xs).length := by
  have := (tK_plc hO).ran i hi
  rw [tK_at hi hp] at this
  omega
theorem tK_done {ds : List Int} {k : Nat} (h : Fill (tp xs).length (tK xs) (fun i => (tp xs).getD i 0) ds k) (hk : (tp xs).length ≤ k) : ds = oT xs L := by
  refine h.done (tK_plc hO) hk (oT_length hO) (fun i hi => ?_)
  obtain ⟨k, hk, a1, e1⟩ := tp_pos hO hi
  rw [e1, Int.toNat_natCast, a1]
end

/-! ### Counting in a list, from the left on -/

def cP (l : List Int) (P : Int → Bool) (n : Nat) : Nat := (l.take n).countP P
theorem cP_yes {l : List Int} {P : Int → Bool} {n : Nat} (hn : n < l.length) (h : P (l.getD n 0) = true) : cP l P (n + 1) = cP l P n + 1 := by
  rw [List.getD, List.getElem?_eq_getElem hn, Option.getD_some] at h
  unfold cP
  rw [take_snoc hn, List.countP_append]
  simp [h]
theorem cP_no {l : List Int} {P : Int → Bool} {n : Nat} (hn : n < l.length) (h : P (l.getD n 0) = false) : cP l P (n + 1) = cP l P n := by
  rw [List.getD, List.getElem?_eq_getElem hn, Option.getD_some] at h
  unfold cP
  rw [take_snoc hn, List.countP_append]
  simp [h]
theorem cP_le (l : List Int) (P : Int → Bool) (n : Nat) : cP l P n ≤ n := by
  unfold cP
  have := List.countP_le_length (p := P) (l := l.take n)
  rw [List.length_take] at this
  omega
theorem cP_all {l : List Int} {P : Int → Bool} {n : Nat} (h : l.length ≤ n) : cP l P n = l.countP P := by unfold cP; rw [List.take_of_length_le h]

theorem countP_take_sorted {xs l : List Int} (h : l.Pairwise (sl xs)) {i : Nat} (hi : i < l.length) (P : Int → Bool) : (l.take i).countP P = l.countP (fun q => P q && lt (xs.drop q.toNat) (xs.drop (l.getD i 0).toNat)) := by
  have hp := List.pairwise_iff_getElem.1 h
  have e : l.getD i 0 = l[i] := by rw [List.getD, List.getElem?_eq_getElem hi, Option.getD_some]
  have hsp : ∀ Q : Int → Bool, l.countP Q = (l.take i).countP Q + (l.drop i).countP Q := fun Q => by rw [← List.countP_append, List.take_append_drop]
  rw [e, hsp]
  have h2 : (l.drop i).countP (fun q => P q && lt (xs.drop q.toNat) (xs.drop l[i].toNat)) = 0 := by
    rw [List.countP_eq_zero]
    intro q hq
    obtain ⟨k, hk, rfl⟩ := List.getElem_of_mem hq
    rw [List.length_drop] at hk
    rw [List.getElem_drop]
    by_cases hk0 : k = 0
    · subst hk0; simp [lt_irrefl]
    · have := lt_asymm _ _ (hp i (i + k) hi (by omega) (by omega))
      rw [this]; simp
  rw [h2, Nat.add_zero]
  refine List.countP_congr (fun q hq => ?_)
  obtain ⟨k, hk, rfl⟩ := List.getElem_of_mem hq
  rw [List.length_take] at hk
  rw [List.getElem_take]
  have : lt (xs.drop l[k].toNat) (xs.drop l[i].toNat) = true := hp k i (by omega) hi (by omega)
  rw [this]; simp

/-! ### The first two symbols -/

theorem fst2 {xs : List Int} {p : Nat} (hp : p + 1 < xs.length) : fst xs p 2 = [sy xs p, sy xs (p + 1)] := by
  unfold fst
  rw [List.drop_eq_getElem_cons (show p < xs.length by omega), List.drop_eq_getElem_cons hp, sy_at hp, sy_at (show p < xs.length by omega)]
  rfl
theorem fst_same {xs : List Int} {p q : Nat} (hp : p + 1 < xs.length) (hq : q < xs.length) (h : fst xs q 2 = fst xs p 2) : q + 1 < xs.length ∧ sy xs q = sy xs p ∧ sy xs (q + 1) = sy xs (p + 1) := by
  have hl : (fst xs q 2).length = 2 := by rw [h, fst2 hp]; rfl
  have hq1 : q + 1 < xs.length := by
    unfold fst at hl
    rw [List.length_take, List.length_drop] at hl
    omega
  rw [fst2 hp, fst2 hq1] at h
  simp at h
  exact ⟨hq1, h.1, h.2⟩

theorem lt_map {f : Int → Int} : ∀ (a b : List Int), (∀ x ∈ a, ∀ y ∈ b, (f x < f y ↔ x < y) ∧ (f x = f y ↔ x = y)) → lt (a.map f) (b.map f) = lt a b
  | [], b, _ => by rw [List.map_nil, lt_nil, lt_nil, List.length_map]
  | a :: r, [], _ => by rw [List.map_nil, lt_to_nil, lt_to_nil]
  | a :: r, b :: s, h => by
    rw [List.map_cons, List.map_cons, lt_cons, lt_cons, lt_map r s (fun x hx y hy => h x (List.mem_cons_of_mem _ hx) y (List.mem_cons_of_mem _ hy))]
    obtain ⟨h1, h2⟩ := h a List.mem_cons_self b List.mem_cons_self
    by_cases e : a = b
    · rw [if_pos e, if_pos (h2.2 e)]
    · rw [if_neg e, if_neg (fun e2 => e (h2.1 e2)), Bool.eq_iff_iff]
      simp [h1]
theorem dense_mono {xs : List Int} {x y : Int} (hx : x ∈ xs) (hy : y ∈ xs) : ((cl (dis xs) x : Int) < (cl (dis xs) y : Int) ↔ x < y) ∧ ((cl (dis xs) x : Int) = (cl (dis xs) y : Int) ↔ x = y) := by
  obtain ⟨p, hp, rfl⟩ := List.getElem_of_mem hx
  obtain ⟨q, hq, rfl⟩ := List.getElem_of_mem hy
  have h1 := dense_lt hp hq
  have h2 := dense_eq hp hq
  have e : ∀ {p : Nat} (hp : p < xs.length), (dense xs).getD p 0 = (cl (dis xs) xs[p] : Int) := fun {p} hp => by simp [dense, List.getD, hp]
  rw [e hp, e hq] at h1 h2
  exact ⟨h1, h2⟩
theorem fst_dense (xs : List Int) (p h : Nat) : fst (dense xs) p h = (fst xs p h).map (fun x => (cl (dis xs) x : Int)) := by
  unfold fst dense
  rw [← List.map_drop, ← List.map_take]
theorem fst_mem {xs : List Int} {p h : Nat} {x : Int} (hx : x ∈ fst xs p h) : x ∈ xs := List.mem_of_mem_drop (List.mem_of_mem_take hx)
theorem lt_dense (xs : List Int) (p q h : Nat) : lt (fst (dense xs) q h) (fst (dense xs) p h) = lt (fst xs q h) (fst xs p h) := by
  rw [fst_dense, fst_dense]
  exact lt_map _ _ (fun x hx y hy => dense_mono (fst_mem hx) (fst_mem hy))
theorem rk_dense (xs : List Int) (h p : Nat) : rk (dense xs) h p = rk xs h p := by
  unfold rk rkOf
  rw [dense_length]
  exact List.countP_congr (fun q _ => by rw [lt_dense])
theorem same_dense (xs : List Int) (p q h : Nat) : (fst (dense xs) q h == fst (dense xs) p h) = (fst xs q h == fst xs p h) := by
  have key : fst (dense xs) q h = fst (dense xs) p h ↔ fst xs q h = fst xs p h := by
    constructor
    · intro e
      rcases lt_total (fst xs q h) (fst xs p h) with h1 | h1 | h1
      · rw [← lt_dense, e, lt_irrefl] at h1; cases h1
      · rw [← lt_dense, e, lt_irrefl] at h1; cases h1
      · exact h1
    · intro e; rw [fst_dense, fst_dense, e]
  rw [Bool.eq_iff_iff, beq_iff_eq, beq_iff_eq, key]

/-- A turn rises to the next symbol. -/
theorem turn_rise {xs : List Int} {p : Nat} (h : isTurn xs p = true) : sy xs p < sy xs (p + 1) := by
  obtain ⟨h1, h2, h3⟩ := turn_iff.1 h
  rw [sy_at h3, sy_at (show p < xs.length by omega)]
  by_cases e : xs[p] = xs[p + 1]
  · rw [gt_same h3 e, h2] at h1; cases h1
  · have := gt_other h3 e
    rw [h1] at this
    have := of_decide_eq_false this.symm
    omega
/-- What begins with the same two symbols as a turn is no L. -/
theorem like_turn {xs : List Int} {p q : Nat} (h : isTurn xs p = true) (hq : q + 1 < xs.length) (h1 : sy xs q = sy xs p) (h2 : sy xs (q + 1) = sy xs (p + 1)) : gt xs q = false := by
  have h3 := turn_rise h
  rw [← h1, ← h2, sy_at hq, sy_at (show q < xs.length by omega)] at h3
  rw [gt_other hq (by omega)]
  simp; omega

section
variable {xs L : List Int} (hO : Ord xs L)
include hO

/-- A turn stands behind all that begins with two lesser symbols, and behind the lesser turns that begin with the same two. -/
theorem ps_turn2 {p : Nat} (ht : isTurn xs p = true) : ps L p = rk xs 2 p + cnt xs.length (fun q => isTurn xs q && (fst xs q 2 == fst xs p 2) && sb xs q p) := by
  obtain ⟨hg, hg1, hp1⟩ := turn_iff.1 ht
  have hp : p < xs.length := by omega
  rw [ps_cnt hO hp, cnt_split (fun q => sb xs q p) (fun q => lt (fst xs q 2) (fst xs p 2))]
  have e1 : cnt xs.length (fun q => sb xs q p && lt (fst xs q 2) (fst xs p 2)) = rk xs 2 p := by
    unfold rk rkOf
    refine cnt_congr (fun q hq => ?_)
    cases e : lt (fst xs q 2) (fst xs p 2) with
    | false => simp
    | true => rw [show sb xs q p = true from lt_fst_lt e]; rfl
  rw [e1]
  congr 1
  refine cnt_congr (fun q hq => ?_)
  rcases lt_total (fst xs q 2) (fst xs p 2) with e | e | e
  · have hne : (fst xs q 2 == fst xs p 2) = false := by
      rw [beq_eq_false_iff_ne]; intro e2; rw [e2, lt_irrefl] at e; cases e
    rw [e, hne]; simp
  · rw [show sb xs q p = false from sb_asymm (lt_fst_lt e)]; simp
  · rw [e, lt_irrefl]
    obtain ⟨hq1, s1, s2⟩ := fst_same hp1 hq e
    have hgq := like_turn ht hq1 s1 s2
    cases e2 : isTurn xs q with
    | true => simp
    | false =>
      have h4 := (notTurn_iff hq hgq).1 e2
      have h5 := sb_LS hp1 hq1 s2.symm hg1 h4
      rw [sb_same hq hp s1, sb_asymm h5]; simp

theorem lay_place {i p : Nat} (hi : i < (oT xs L).length) (hp : (oT xs L).getD i 0 = (p : Int)) : rk xs 2 p + cP (oT xs L) (fun q => fst xs q.toNat 2 == fst xs p 2) i = ps L p := by
  obtain ⟨p', hp', hpx, ht⟩ := oT_at hO hi
  obtain rfl : p = p' := by omega
  rw [ps_turn2 hO ht]
  congr 1
  unfold cP
  rw [countP_take_sorted (oT_sorted hO) hi, hp, Int.toNat_natCast, oT_filter hO, List.countP_filter, hO.perm.countP_eq]
  unfold places cnt
  rw [List.countP_map]
  refine List.countP_congr (fun q _ => ?_)
  simp [sb]
  constructor
  · rintro ⟨⟨a, b⟩, c⟩; exact ⟨⟨c, a⟩, b⟩
  · rintro ⟨⟨a, b⟩, c⟩; exact ⟨⟨b, c⟩, a⟩

/-! ### What lies at its place -/

/-- Those of a kind lie at their places; all other places are free. -/
structure Got (xs L : List Int) (P : Nat → Bool) (arr : List Int) : Prop where
  len : arr.length = xs.length
  at' : ∀ j, j < xs.length → arr.getD j 0 = if P (L.getD j 0).toNat = true then L.getD j 0 else -1

omit hO in
theorem Got.start : Got xs L (fun _ => false) (List.replicate xs.length (-1)) := ⟨by simp, fun j hj => by simp [List.getD, hj]⟩
theorem Got.at {P : Nat → Bool} {arr : List Int} (h : Got xs L P arr) {p : Nat} (hp : p < xs.length) : arr.getD (ps L p) 0 = if P p = true then (p : Int) else -1 := by
  rw [h.at' _ (ps_lt hO hp), ps_at hO hp, Int.toNat_natCast]
omit hO in
theorem Got.congr {P Q : Nat → Bool} {arr : List Int} (h : Got xs L P arr) (hO : Ord xs L) (hQ : ∀ q, q < xs.length → Q q = P q) : Got xs L Q arr := by
  refine ⟨h.len, fun j hj => ?_⟩
  have := OrdTo.at hO hj
  rw [h.at' j hj, hQ _ (by omega)]
theorem Got.put {P Q : Nat → Bool} {arr : List Int} (h : Got xs L P arr) {p : Nat} (hp : p < xs.length) (hQp : Q p = true) (hQ : ∀ q, q < xs.length → q ≠ p → Q q = P q) : Got xs L Q (arr.set (ps L p) p) := by
  refine ⟨by simp [h.len], fun j hj => ?_⟩
  have hat := OrdTo.at hO hj
  by_cases e : ps L p = j
  · subst e
    rw [set_at (by rw [h.len]; exact hj), ps_at hO hp, Int.toNat_natCast, if_pos hQp]
  · have hne : (L.getD j 0).toNat ≠ p := by
      intro e2
      have := ps_of hO hj
      rw [e2] at this
      exact e this
    rw [set_not e, h.at' j hj, hQ _ (by omega) hne]
omit hO in
theorem Got.low {P : Nat → Bool} {arr : List Int} (h : Got xs L P arr) (hO : Ord xs L) : low arr := by
  intro j
  rcases Nat.lt_or_ge j xs.length with hj | hj
  · have := OrdTo.at hO hj
    rw [h.at' j hj]; split <;> omega
  · rw [List.getD, List.getElem?_eq_none (by rw [h.len]; exact hj)]; simp

/-! ### The turns are laid -/

def LayT (xs L : List Int) (i : Nat) (arr : List Int) : Prop := Got xs L (fun q => decide ((q : Int) ∈ (oT xs L).take i)) arr
omit hO in
theorem LayT.start : LayT xs L 0 (List.replicate xs.length (-1)) := by
  have h := Got.start (xs := xs) (L := L)
  unfold LayT
  simpa using h
theorem LayT.lay {i p : Nat} {arr : List Int} (h : LayT xs L i arr) (hi : i < (oT xs L).length) (hp : (oT xs L).getD i 0 = (p : Int)) : LayT xs L (i + 1) (arr.set (ps L p) p) := by
  obtain ⟨p', hp', hpx, ht⟩ := oT_at hO hi
  obtain rfl : p = p' := by omega
  have hg : (oT xs L)[i] = (p : Int) := by rw [← hp, List.getD, List.getElem?_eq_getElem hi, Option.getD_some]
  refine Got.put hO h hpx ?_ (fun q _ hne => ?_)
  · rw [take_snoc hi, hg]; simp
  · rw [take_snoc hi, hg, Bool.eq_iff_iff]
    simp; omega
theorem LayT.done {i : Nat} {arr : List Int} (h : LayT xs L i arr) (hi : (oT xs L).length ≤ i) : Got xs L (isTurn xs) arr := by
  refine Got.congr h hO (fun q hq => ?_)
  rw [List.take_of_length_le hi, Bool.eq_iff_iff]
  simp only [decide_eq_true_eq, mem_oT hO, Int.toNat_natCast]
  constructor
  · intro h; exact ⟨⟨by omega, by omega⟩, h⟩
  · intro h; exact h.2

/-! ### All others that are no L, from the right -/

def RiseT (xs L : List Int) (i : Nat) (arr : List Int) : Prop := Got xs L (fun q => isTurn xs q || (!gt xs q && decide (i ≤ ps L (q + 1)))) arr
theorem RiseT.start {arr : List Int} (h : Got xs L (isTurn xs) arr) : RiseT xs L xs.length arr := by
  refine Got.congr h hO (fun q hq => ?_)
  cases e : gt xs q with
  | true => simp
  | false =>
    have := ps_lt hO (S_next hq e)
    simp; omega
/-- What stands at i is an L, and free yet; or it is no L, and there. -/
theorem RiseT.read {i : Nat} {arr : List Int} (h : RiseT xs L (i + 1) arr) (hi : i < xs.length) : arr.getD i 0 = -1 ∧ gt xs (L.getD i 0).toNat = true ∨ ∃ o : Nat, arr.getD i 0 = (o : Int) ∧ o < xs.length ∧ gt xs o = false ∧ ps L o = i := by
  have hat := OrdTo.at hO hi
  have hps := ps_of hO hi
  have hr := h.at' i hi
  generalize ho : (L.getD i 0).toNat = o at hr hps ⊢
  have hox : o < xs.length := by omega
  cases e : gt xs o with
  | true =>
    left
    have ht : isTurn xs o = false := by
      cases e2 : isTurn xs o with
      | false => rfl
      | true => rw [(turn_iff.1 e2).1] at e; cases e
    rw [hr, e, ht]; simp
  | false =>
    right
    refine ⟨o, ?_, hox, e, hps⟩
    have := (ps_lt_iff hO hox (S_next hox e)).1 (sb_ngt hox e)
    rw [hr, if_pos (by rw [e]; simp; right; omega)]
    omega
theorem RiseT.skip {i : Nat} {arr : List Int} (h : RiseT xs L (i + 1) arr) (hn : ∀ p : Nat, p + 1 < xs.length → ps L (p + 1) = i → gt xs (p + 1) = false → gt xs p = true) : RiseT xs L i arr := by
  refine Got.congr h hO (fun q hq => ?_)
  cases e2 : isTurn xs q with
  | true => simp
  | false =>
    cases e : gt xs q with
    | true => simp
    | false =>
      have h1 := (notTurn_iff hq e).1 e2
      have h2 : ps L (q + 1) ≠ i := fun e3 => by rw [hn q (S_next hq e) e3 h1] at e; cases e
      rw [Bool.eq_iff_iff]; simp; omega
theorem RiseT.draw {i : Nat} {arr : List Int} (h : RiseT xs L (i + 1) arr) {p : Nat} (hp : p + 1 < xs.length) (hps : ps L (p + 1) = i) (h1 : gt xs (p + 1) = false) (hg : gt xs p = false) :
    ∃ z E : Nat, be xs (sy xs p) = E ∧ z < E ∧ E ≤ xs.length ∧ arr.length = xs.length ∧ arr.getD z 0 = -1 ∧ (∀ j, z < j → j < E → arr.getD j 0 ≠ -1) ∧ RiseT xs L i (arr.set z p) := by
  have hpx : p < xs.length := by omega
  have ht := (notTurn_iff hpx hg).2 h1
  have hS := ps_S hO hpx hg
  refine ⟨ps L p, be xs (sy xs p), rfl, by omega, be_le _ _, h.len, ?_, ?_, ?_⟩
  · rw [Got.at hO h hpx, ht, hg, hps, if_neg (by simp)]
  · intro j hj hjE
    have hjx : j < xs.length := by have := be_le xs (sy xs p); omega
    have hat := OrdTo.at hO hjx
    have hpr := ps_of hO hjx
    rw [h.at' j hjx]
    generalize hr : (L.getD j 0).toNat = r at hpr ⊢
    have hrx : r < xs.length := by omega
    have hsb : sb xs p r = true := (ps_lt_iff hO hpx hrx).2 (by omega)
    have hs1 := sb_sy hpx hrx hsb
    have hs2 : sy xs r = sy xs p := by
      rcases Int.lt_or_eq_of_le hs1 with h2 | h2
      · have h3 := be_bs (xs := xs) h2
        have h4 := bs_le hO hrx
        omega
      · exact h2.symm
    have hgr : gt xs r = false := by
      cases e : gt xs r with
      | false => rfl
      | true => rw [sb_asymm (sb_LS hrx hpx hs2 e hg)] at hsb; cases hsb
    have hle : isTurn xs r = true ∨ i + 1 ≤ ps L (r + 1) := by
      rw [sb_same hpx hrx hs2.symm] at hsb
      have := (ps_lt_iff hO hp (S_next hrx hgr)).1 hsb
      right; omega
    rw [if_pos (by rw [hgr]; simpa using hle)]
    omega
  · refine Got.put hO h hpx (by rw [hg, hps]; simp) (fun q hq hne => ?_)
    cases e2 : isTurn xs q with
    | true => simp
    | false =>
      cases e : gt xs q with
      | true => simp
      | false =>
        have h3 : ps L (q + 1) ≠ i := fun e3 => by
          have := ps_inj hO (S_next hq e) hp (by omega)
          omega
        rw [Bool.eq_iff_iff]; simp; omega
theorem RiseT.done {arr : List Int} (h : RiseT xs L 0 arr) : Got xs L (fun q => !gt xs q) arr := by
  refine Got.congr h hO (fun q hq => ?_)
  cases e : gt xs q with
  | false => simp
  | true =>
    cases e2 : isTurn xs q with
    | false => simp
    | true => rw [(turn_iff.1 e2).1] at e; cases e

/-! ### The L, from the left -/

structure FallT (xs L : List Int) (t : Nat) (kn hs : List Int) : Prop where
  len : kn.length = xs.length
  low : Go.Proofs.Ytdhehffdddbmbaa.low kn
  ex : ∃ hd, Heads xs hs hd ∧ ((t = 0 ∧ (∀ c, hd c = bs xs c) ∧ Got xs L (fun q => !gt xs q) kn) ∨ ∃ i, t = i + 1 ∧ DrawnL xs.length (sy xs) (gt xs) (fun p => !gt xs p) (ps L) (bs xs) i kn hd)

theorem FallT.start {kn : List Int} (h : Got xs L (fun q => !gt xs q) kn) : FallT xs L 0 kn (buckets xs) :=
  ⟨h.len, h.low hO, bs xs, Heads.starts xs, .inl ⟨rfl, fun _ => rfl, h⟩⟩
theorem FallT.none {kn hs : List Int} (h : FallT xs L 0 kn hs) (hn : xs.length = 0) : FallT xs L 1 kn hs := by
  obtain ⟨h2, h3, hd, hH, hc⟩ := h
  have := hO
  rcases hc with ⟨_, hb, _⟩ | ⟨i, hi, _⟩
  · refine ⟨h2, h3, hd, hH, .inr ⟨0, rfl, ⟨h2, fun p hp => by omega, fun p hp => by omega, fun j hj => by omega, fun c => ?_⟩⟩⟩
    rw [hb, hn]; rfl
  · omega
theorem FallT.first {kn hs : List Int} (h : FallT xs L 0 kn hs) {p : Nat} (hp : p + 1 = xs.length) :
    dN xs p < hs.length ∧ ∃ z : Nat, hs.getD (dN xs p) 0 = (z : Int) ∧ z < xs.length ∧ z < kn.length ∧ FallT xs L 1 (kn.set z p) (hs.set (dN xs p) ((z : Int) + 1)) := by
  obtain ⟨h2, h3, hd, hH, hc⟩ := h
  have hpn : p < xs.length := by omega
  rcases hc with ⟨_, hb, hG⟩ | ⟨i, hi, _⟩
  · obtain ⟨g1, g2⟩ := DrawnL.start (draws_rest hO) h2 (fun q hq hM => by rw [Got.at hO hG hq, if_pos hM]) (fun q _ hq => by simp [hq]) (fun j hj h0 => by
      have hat := OrdTo.at hO hj
      rw [hG.at' j hj] at h0 ⊢
      split at h0
      · rename_i hM
        rw [if_pos hM]
        exact ⟨(L.getD j 0).toNat, by omega, by omega, ps_of hO hj, hM⟩
      · omega) hb hp
    exact ⟨hH.lt hpn, hd (sy xs p), hH.at' p hpn, g2, by omega, by simp [h2], h3.set _ _, up hd (sy xs p), hH.up hpn, .inr ⟨0, rfl, g1⟩⟩
  · omega
theorem FallT.skip {i : Nat} {kn hs : List Int} (h : FallT xs L (i + 1) kn hs) (hn : ∀ p, p + 1 < xs.length → kn.getD i 0 = ((p + 1 : Nat) : Int) → gt xs p = false) : FallT xs L (i + 2) kn hs := by
  obtain ⟨h2, h3, hd, hH, hc⟩ := h
  rcases hc with ⟨h0, _⟩ | ⟨i', hi, hI⟩
  · omega
  · obtain rfl : i = i' := by omega
    exact ⟨h2, h3, hd, hH, .inr ⟨i + 1, rfl, hI.skip (draws_rest hO) hn⟩⟩
theorem FallT.draw {i : Nat} {kn hs : List Int} (h : FallT xs L (i + 1) kn hs) (hi : i < xs.length) {p : Nat} (hp1 : p + 1 < xs.length) (hat : kn.getD i 0 = ((p + 1 : Nat) : Int)) (hD : gt xs p = true) :
    dN xs p < hs.length ∧ ∃ z : Nat, hs.getD (dN xs p) 0 = (z : Int) ∧ z < xs.length ∧ z < kn.length ∧ FallT xs L (i + 2) (kn.set z p) (hs.set (dN xs p) ((z : Int) + 1)) := by
  obtain ⟨h2, h3, hd, hH, hc⟩ := h
  have hpn : p < xs.length := by omega
  rcases hc with ⟨h0, _⟩ | ⟨i', hi', hI⟩
  · omega
  · obtain rfl : i = i' := by omega
    obtain ⟨g1, g2, _⟩ := hI.draw (draws_rest hO) (fun q _ hq => by simp [hq]) hi hp1 hat hD
    exact ⟨hH.lt hpn, hd (sy xs p), hH.at' p hpn, g2, by omega, by simp [h2], h3.set _ _, up hd (sy xs p), hH.up hpn, .inr ⟨i + 1, rfl, g1⟩⟩
theorem FallT.range {i : Nat} {kn hs : List Int} (h : FallT xs L (i + 1) kn hs) {j : Nat} (hj : j < xs.length) : -1 ≤ kn.getD j 0 ∧ kn.getD j 0 < xs.length := by
  have := hO
  obtain ⟨h2, h3, hd, hH, hc⟩ := h
  rcases hc with ⟨h0, _⟩ | ⟨i', hi', hI⟩
  · omega
  · exact ⟨h3 j, hI.range hj⟩
theorem FallT.done {i : Nat} {kn hs : List Int} (h : FallT xs L (i + 1) kn hs) (hi : xs.length ≤ i) : kn = L := by
  obtain ⟨h2, h3, hd, hH, hc⟩ := h
  rcases hc with ⟨h0, _⟩ | ⟨i', hi', hI⟩
  · omega
  · obtain rfl : i = i' := by omega
    exact rest_order hO hI hi
end

end Go.Proofs.Ytdhehffdddbmbaa
