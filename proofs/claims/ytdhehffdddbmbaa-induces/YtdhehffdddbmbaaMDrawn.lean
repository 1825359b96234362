/-
  MDrawn: plain mathematics of the ways by marks and by turns: how often names are taken as a text; laying and drawing in, with lists as the program keeps them (P8, P12 to P15). Nothing of the program.
-/
import Derived.Test.YtdhehffdddbmbaaMMarks
import Derived.Test.YtdhehffdddbmbaaRefNames2
/-! ## MWays -/

namespace Go.Proofs.Ytdhehffdddbmbaa

/-! ### How often names are taken as a text -/

theorem lev_fuel : ∀ (k k' : Nat) (ts : List Int), ts.length ≤ k → ts.length ≤ k' → lev diff k ts = lev diff k' ts
  | 0, 0, _, _, _ => rfl
  | 0, k' + 1, ts, h, _ => by rw [lev, lev, if_pos (by omega)]
  | k + 1, 0, ts, _, h => by rw [lev, lev, if_pos (by omega)]
  | k + 1, k' + 1, ts, h, h' => by
    rw [lev, lev]
    by_cases h0 : ts.length = 0
    · rw [if_pos h0, if_pos h0]
    · have hs := names_short (xs := ts) (by omega)
      rw [if_neg h0, if_neg h0, lev_fuel k k' (names ts) (by omega) (by omega)]
theorem levels_none {xs : List Int} (h : diff (names xs) = true) : levels xs = 0 := by
  unfold levels
  cases e : xs.length with
  | zero => rfl
  | succ k => rw [lev]; split <;> simp_all
theorem levels_more {xs : List Int} (h : diff (names xs) = false) : levels xs = levels (names xs) + 1 := by
  have h0 : 0 < xs.length := by
    rcases Nat.eq_zero_or_pos xs.length with h0 | h0
    · have : names xs = [] := List.eq_nil_of_length_eq_zero (by rw [names_length]; have := marks_length_le xs; omega)
      rw [this] at h
      simp [diff] at h
    · exact h0
  have hs := names_short h0
  unfold levels
  obtain ⟨k, hk⟩ : ∃ k, xs.length = k + 1 := ⟨xs.length - 1, by omega⟩
  rw [hk, lev, if_neg (by omega), if_neg (by rw [h]; simp), lev_fuel k (names xs).length (names xs) (by omega) (Nat.le_refl _)]

/-! ### Names that are all different -/

theorem names_getD {xs : List Int} {i : Nat} (h : i < (marks xs).length) : (names xs).getD i 0 = nm xs i := by rw [List.getD, names_at h]; rfl

theorem names_ps {xs N : List Int} (hd : diff (names xs) = true) (hN : Ord (names xs) N) {i : Nat} (hi : i < (marks xs).length) : ps N i = nm xs i := by
  have hnl := names_length xs
  have hdd : ∀ a b, a < (marks xs).length → b < (marks xs).length → a ≠ b → nm xs a ≠ nm xs b := by
    intro a b ha hb hne he
    have hp := List.pairwise_iff_getElem.1 (of_decide_eq_true hd : (names xs).Nodup)
    have ea := names_getD ha
    have eb := names_getD hb
    rw [List.getD, List.getElem?_eq_getElem (by omega), Option.getD_some] at ea eb
    rcases Nat.lt_or_ge a b with h1 | h1
    · exact hp a b (by omega) (by omega) h1 (by rw [ea, eb, he])
    · exact hp b a (by omega) (by omega) (by omega) (by rw [ea, eb, he])
  rw [ps_cnt hN (by omega), hnl]
  unfold nm nameCnt cnt
  refine List.countP_congr (fun q hq => ?_)
  have hq := List.mem_range.1 hq
  have hh : hadTo xs q q = false := by
    rw [hadTo_false]
    intro k hk he
    exact hdd k q (by omega) hq (by omega) ((nm_eq_iff (by omega) hq).2 he)
  rw [hh]
  have hsb : sb (names xs) q i = lt (pc xs q) (pc xs i) := by
    unfold sb
    rw [names_order _ q i rfl hq hi]
    rcases Classical.em (q = i) with rfl | hne
    · rw [lt_irrefl, lt_irrefl]
    · rw [pc_lt hq hi (fun he => hdd q i hq hi hne ((nm_eq_iff hq hi).2 he))]
  rw [hsb]
  simp
/-- Where the names are all different they tell where the marks stand. -/
theorem names_lifted {xs N : List Int} (hd : diff (names xs) = true) (hN : Ord (names xs) N) {i : Nat} (hi : i < (marks xs).length) : (N.map (mkOf xs))[((names xs).getD i 0).toNat]? = some ((marks xs).getD i 0) := by
  rw [names_getD hi, Int.toNat_natCast, ← names_ps hd hN hi, List.getElem?_map]
  have hn : i < (names xs).length := by rw [names_length]; exact hi
  have h1 := ps_lt hN hn
  have h2 := ps_at hN hn
  rw [← OrdTo.length hN] at h1
  rw [List.getD, List.getElem?_eq_getElem h1, Option.getD_some] at h2
  rw [List.getElem?_eq_getElem h1, Option.map_some, h2]
  unfold mkOf
  rw [Int.toNat_natCast]

/-! ### Where a place is drawn in -/

/-- An L or a mark. -/
def lm (xs : List Int) (p : Nat) : Prop := gt xs p = true ∨ isMark xs p = true
theorem lm_next {xs : List Int} {p : Nat} (h : gt xs p = true) : lm xs (p + 1) := by
  cases e : gt xs (p + 1) with
  | true => exact .inl e
  | false => exact .inr ((mark_iff xs (p + 1)).2 ⟨by omega, e, by rw [Nat.add_sub_cancel]; exact h⟩)

section
variable {xs L : List Int} (hO : Ord xs L)
include hO

/-- The last place stands first among those of its symbol. -/
theorem ps_last {p : Nat} (hp : p + 1 = xs.length) : ps L p = bs xs (sy xs p) := by
  rw [ps_bucket hO (by omega), cnt_none, Nat.add_zero]
  intro q hq
  by_cases h : sy xs q = sy xs p
  · rw [sb_same hq (by omega) h]
    unfold sb
    rw [List.drop_eq_nil_of_le (show xs.length ≤ p + 1 by omega), lt_to_nil]
    simp
  · simp [h]

/-- An L: behind those L of its symbol whose next place stands ahead of its own next place. -/
theorem ps_drawL {p : Nat} (hp : p + 1 < xs.length) (hg : gt xs p = true) (loc : Nat → Nat) (hloc : ∀ a b, a < xs.length → b < xs.length → lm xs a → lm xs b → (sb xs a b = true ↔ loc a < loc b)) :
    ps L p = bs xs (sy xs p) + cnt xs.length (fun q => decide (sy xs q = sy xs p) && gt xs q && (decide (q + 1 = xs.length) || decide (loc (q + 1) < loc (p + 1)))) := by
  rw [ps_L hO (by omega) hg]
  congr 1
  refine cnt_congr (fun q hq => ?_)
  by_cases h : sy xs q = sy xs p
  · cases e : gt xs q with
    | false => simp
    | true =>
      rw [sb_same hq (by omega) h]
      by_cases hl : q + 1 = xs.length
      · have : sb xs (q + 1) (p + 1) = true := by
          unfold sb
          rw [List.drop_eq_nil_of_le (show xs.length ≤ q + 1 by omega), lt_nil]
          simp; omega
        rw [this]; simp [hl]
      · have hi := hloc (q + 1) (p + 1) (by omega) hp (lm_next e) (lm_next hg)
        have : sb xs (q + 1) (p + 1) = decide (loc (q + 1) < loc (p + 1)) := by rw [Bool.eq_iff_iff, hi]; simp
        simp [this, hl, h]
  · simp [h]

/-- What is no L: ahead of those of its symbol that are no L whose next place stands behind its own next place. -/
theorem ps_drawS {p : Nat} (hp : p < xs.length) (hg : gt xs p = false) :
    ps L p + 1 + cnt xs.length (fun q => decide (sy xs q = sy xs p) && !gt xs q && decide (ps L (p + 1) < ps L (q + 1))) = be xs (sy xs p) := by
  have hnl : ∀ q, q < xs.length → gt xs q = false → q + 1 < xs.length := by
    intro q hq h
    rcases Nat.lt_or_ge (q + 1) xs.length with h1 | h1
    · exact h1
    · rw [gt_last (by omega)] at h; cases h
  rw [← ps_S hO hp hg]
  congr 1
  refine cnt_congr (fun q hq => ?_)
  by_cases h : sy xs q = sy xs p
  · cases e : gt xs q with
    | true => simp
    | false =>
      rw [sb_same hp hq h.symm]
      have : sb xs (p + 1) (q + 1) = decide (ps L (p + 1) < ps L (q + 1)) := by
        rw [Bool.eq_iff_iff]
        unfold sb
        rw [ps_lt_iff hO (hnl p hp hg) (hnl q hq e)]
        simp
      rw [this]
  · simp [h]
end

end Go.Proofs.Ytdhehffdddbmbaa

/-! ## MLaid -/

namespace Go.Proofs.Ytdhehffdddbmbaa

/-! ### Laying from the last to the first -/

/-- What is laid (M), in the order r (mk from 0 to m), each at its bucket's end ahead of those of its bucket that are laid behind it. -/
structure Lays (n : Nat) (sy : Nat → Int) (M : Nat → Bool) (loc r mk : Nat → Nat) (m : Nat) (be : Int → Nat) : Prop where
  lt : ∀ p, p < n → M p = true → loc p < n
  inj : ∀ p q, p < n → q < n → M p = true → M q = true → loc p = loc q → p = q
  mk_lt : ∀ k, k < m → mk k < n ∧ M (mk k) = true ∧ r (mk k) = k
  r_lt : ∀ p, p < n → M p = true → r p < m ∧ mk (r p) = p
  goes : ∀ p, p < n → M p = true → loc p + 1 + cnt n (fun q => decide (sy q = sy p) && M q && decide (r p < r q)) = be (sy p)

structure Laid (n : Nat) (sy : Nat → Int) (M : Nat → Bool) (loc r : Nat → Nat) (be : Int → Nat) (i : Nat) (arr : List Int) (tl : Int → Nat) : Prop where
  len : arr.length = n
  laid : ∀ p, p < n → M p = true → i ≤ r p → arr.getD (loc p) 0 = p
  free : ∀ j, j < n → 0 ≤ arr.getD j 0 → ∃ p, p < n ∧ arr.getD j 0 = (p : Int) ∧ loc p = j ∧ M p = true ∧ i ≤ r p
  tail : ∀ c, tl c + cnt n (fun q => decide (sy q = c) && M q && decide (i ≤ r q)) = be c

section
variable {n : Nat} {sy : Nat → Int} {M : Nat → Bool} {loc r mk : Nat → Nat} {m : Nat} {be : Int → Nat} {i : Nat} {arr : List Int} {tl : Int → Nat}

theorem Laid.start (h : Lays n sy M loc r mk m be) (hl : arr.length = n) (hE : ∀ j, j < n → arr.getD j 0 < 0) (ht : ∀ c, tl c = be c) : Laid n sy M loc r be m arr tl := by
  refine ⟨hl, ?_, ?_, ?_⟩
  · intro p hp hM h1
    have := (h.r_lt p hp hM).1
    omega
  · intro j hj h0
    have := hE j hj
    omega
  · intro c
    rw [ht, cnt_none, Nat.add_zero]
    intro q hq
    cases e : M q with
    | false => simp
    | true =>
      have := (h.r_lt q hq e).1
      simp; intro _; omega

theorem Laid.lay (h : Lays n sy M loc r mk m be) (hI : Laid n sy M loc r be (i + 1) arr tl) (hi : i < m) {p : Nat} (hp : mk i = p) :
    Laid n sy M loc r be i (arr.set (tl (sy p) - 1) p) (down tl (sy p)) ∧ 1 ≤ tl (sy p) ∧ tl (sy p) ≤ n := by
  obtain ⟨hpn, hM, hr⟩ := h.mk_lt i hi
  rw [hp] at hpn hM hr
  have hgo := h.goes p hpn hM
  have hlt := h.lt p hpn hM
  have he : tl (sy p) = loc p + 1 := by
    have h1 := hI.tail (sy p)
    rw [← hgo] at h1
    have h2 : cnt n (fun q => decide (sy q = sy p) && M q && decide (i + 1 ≤ r q)) = cnt n (fun q => decide (sy q = sy p) && M q && decide (r p < r q)) := by
      rw [hr]; rfl
    omega
  have he1 : tl (sy p) - 1 = loc p := by omega
  have hne : ∀ q, q < n → q ≠ p → M q = true → r q ≠ i := by
    intro q hq hqp hMq e
    have := (h.r_lt q hq hMq).2
    rw [e, hp] at this
    exact hqp this.symm
  refine ⟨⟨by simp [hI.len], ?_, ?_, ?_⟩, by omega, by omega⟩
  · intro q hq hMq h1
    by_cases e : q = p
    · subst e; rw [he1]; exact set_at (by rw [hI.len]; omega) _
    · have h2 : loc p ≠ loc q := fun e2 => e (h.inj p q hpn hq hM hMq e2).symm
      have h3 := hne q hq e hMq
      rw [he1, set_not h2]
      exact hI.laid q hq hMq (by omega)
  · intro j hj h0
    by_cases e : loc p = j
    · subst e
      exact ⟨p, hpn, by rw [he1]; exact set_at (by rw [hI.len]; omega) _, rfl, hM, by omega⟩
    · rw [he1, set_not e] at h0 ⊢
      obtain ⟨q, hq, h1, h2, h3, h4⟩ := hI.free j hj h0
      exact ⟨q, hq, h1, h2, h3, by omega⟩
  · intro c
    unfold down
    have hb := hI.tail c
    by_cases e : c = sy p
    · subst e
      rw [if_pos rfl]
      have := cnt_add (n := n) (p := p) (P := fun q => decide (sy q = sy p) && M q && decide (i + 1 ≤ r q)) (Q := fun q => decide (sy q = sy p) && M q && decide (i ≤ r q)) (by simp; intro _; omega) (by simp [hM]; omega) hpn (fun q hq hqp => by
        cases e3 : M q with
        | false => simp
        | true =>
          have h4 := hne q hq hqp e3
          have : decide (i + 1 ≤ r q) = decide (i ≤ r q) := by rw [Bool.eq_iff_iff]; simp; omega
          rw [this])
      omega
    · rw [if_neg e, ← hb]
      congr 1
      refine cnt_congr (fun q hq => ?_)
      by_cases e2 : q = p
      · subst e2; simp [show ¬ sy q = c from fun h => e h.symm]
      · cases e3 : M q with
        | false => simp
        | true =>
          have h4 := hne q hq e2 e3
          have : decide (i ≤ r q) = decide (i + 1 ≤ r q) := by rw [Bool.eq_iff_iff]; simp; omega
          rw [this]

theorem Laid.range (hI : Laid n sy M loc r be i arr tl) {j : Nat} (hj : j < n) : arr.getD j 0 < n := by
  rcases Int.lt_or_le (arr.getD j 0) 0 with h0 | h0
  · omega
  · obtain ⟨p, hp, h1, _⟩ := hI.free j hj h0
    omega
end

/-! ### The marks in the order of their suffixes -/

/-- Where a place stands ahead of the pass from the right: an L where it belongs, a mark where it was laid. -/
def locF (xs L : List Int) (p : Nat) : Nat :=
  if gt xs p = true then ps L p else be xs (sy xs p) - 1 - cnt xs.length (fun q => decide (sy xs q = sy xs p) && isMark xs q && sb xs p q)

theorem mark_not {xs : List Int} {p : Nat} (h : isMark xs p = true) : gt xs p = false := ((mark_iff xs p).1 h).2.1
theorem be_le (xs : List Int) (c : Int) : be xs c ≤ xs.length := cnt_le _ _
theorem be_bs {xs : List Int} {c d : Int} (h : c < d) : be xs c ≤ bs xs d := cnt_le_cnt (fun q _ hq => by simp at hq ⊢; omega)

section
variable {xs L : List Int} (hO : Ord xs L)
include hO

theorem bs_le {p : Nat} (hp : p < xs.length) : bs xs (sy xs p) ≤ ps L p := by rw [ps_bucket hO hp]; omega
theorem locF_L {p : Nat} (h : gt xs p = true) : locF xs L p = ps L p := by have := hO; unfold locF; rw [if_pos h]
theorem locF_M {p : Nat} (hp : p < xs.length) (h : isMark xs p = true) : locF xs L p + 1 + cnt xs.length (fun q => decide (sy xs q = sy xs p) && isMark xs q && sb xs p q) = be xs (sy xs p) ∧ ps L p ≤ locF xs L p := by
  have h0 := mark_not h
  have h1 := ps_S hO hp h0
  have h2 : cnt xs.length (fun q => decide (sy xs q = sy xs p) && isMark xs q && sb xs p q) ≤ cnt xs.length (fun q => decide (sy xs q = sy xs p) && !gt xs q && sb xs p q) := by
    refine cnt_le_cnt (fun q _ hq => ?_)
    simp at hq ⊢
    exact ⟨⟨hq.1.1, mark_not hq.1.2⟩, hq.2⟩
  unfold locF
  rw [if_neg (by rw [h0]; simp)]
  omega

theorem locF_mono {a b : Nat} (ha : a < xs.length) (hb : b < xs.length) (la : lm xs a) (lb : lm xs b) (h : sb xs a b = true) : locF xs L a < locF xs L b := by
  have hps : ps L a < ps L b := (ps_lt_iff hO ha hb).1 h
  have hsy := sb_sy ha hb h
  rcases la with la | la
  · rw [locF_L hO la]
    rcases lb with lb | lb
    · rw [locF_L hO lb]; exact hps
    · have := (locF_M hO hb lb).2; omega
  · obtain ⟨a1, a2⟩ := locF_M hO ha la
    rcases Int.lt_or_eq_of_le hsy with h1 | h1
    · have h2 := be_bs (xs := xs) h1
      have h3 := bs_le hO hb
      rcases lb with lb | lb
      · rw [locF_L hO lb]; omega
      · have := (locF_M hO hb lb).2; omega
    · rcases lb with lb | lb
      · rw [sb_asymm (sb_LS hb ha h1.symm lb (mark_not la))] at h; cases h
      · obtain ⟨b1, b2⟩ := locF_M hO hb lb
        rw [← h1] at b1
        have := cnt_lt_cnt (n := xs.length) (P := fun q => decide (sy xs q = sy xs a) && isMark xs q && sb xs b q) (Q := fun q => decide (sy xs q = sy xs a) && isMark xs q && sb xs a q) (fun q _ hq => by
          simp at hq ⊢
          exact ⟨hq.1, sb_trans h hq.2⟩) hb (by simp [sb_irrefl]) (by simp [h1, lb, h])
        omega

theorem locF_iff {a b : Nat} (ha : a < xs.length) (hb : b < xs.length) (la : lm xs a) (lb : lm xs b) : sb xs a b = true ↔ locF xs L a < locF xs L b := by
  refine ⟨locF_mono hO ha hb la lb, fun h => ?_⟩
  cases e : sb xs a b with
  | true => rfl
  | false =>
    by_cases hab : a = b
    · subst hab; omega
    · have := locF_mono hO hb ha lb la (sb_total (by omega) (by omega) hab e)
      omega

theorem draws_final : Draws xs.length (sy xs) (gt xs) (isMark xs) (locF xs L) (bs xs) := by
  refine ⟨?_, ?_, ?_, ?_, ?_⟩
  · intro p hp h
    rcases h with h | h
    · rw [locF_L hO h]; exact ps_lt hO hp
    · have := (locF_M hO hp h).1
      have := be_le xs (sy xs p)
      omega
  · intro p q hp hq h1 h2 he
    apply Classical.byContradiction
    intro hne
    cases e : sb xs p q with
    | true => have := locF_mono hO hp hq h1 h2 e; omega
    | false => have := locF_mono hO hq hp h2 h1 (sb_total (by omega) (by omega) hne e); omega
  · intro p hp h
    have h1 := lm_next h
    exact ⟨h1, locF_mono hO hp (by omega) h1 (.inl h) (sb_gt h)⟩
  · intro p hp
    have hg := gt_last (xs := xs) (i := p) (by omega)
    exact ⟨hg, by rw [locF_L hO hg]; exact ps_last hO hp⟩
  · intro p hp h
    rw [locF_L hO h]
    exact ps_drawL hO hp h (locF xs L) (fun a b ha hb la lb => locF_iff hO ha hb la lb)

theorem drawsS_final : DrawsS xs.length (sy xs) (fun p => !gt xs p) (ps L) (fun i => (L.getD i 0).toNat) (be xs) := by
  have hnl : ∀ q, q < xs.length → gt xs q = false → q + 1 < xs.length := by
    intro q hq h
    rcases Nat.lt_or_ge (q + 1) xs.length with h1 | h1
    · exact h1
    · rw [gt_last (by omega)] at h; cases h
  refine ⟨fun p hp => ps_lt hO hp, ?_, fun p q hp hq h => ps_inj hO hp hq h, ?_, ?_⟩
  · intro i hi
    have := OrdTo.at hO hi
    exact ⟨by omega, ps_of hO hi⟩
  · intro p hp h
    have h : gt xs p = false := by simpa using h
    have h1 := hnl p hp h
    exact ⟨h1, (ps_lt_iff hO hp h1).1 (sb_ngt hp h)⟩
  · intro p hp h
    exact ps_drawS hO hp (by simpa using h)

/-- At the end the list is the order. -/
theorem drawn_order {arr : List Int} {tl : Int → Nat} (hI : DrawnS xs.length (sy xs) (fun p => !gt xs p) (ps L) (be xs) 0 arr tl) : arr = L := by
  have hl := OrdTo.length hO
  refine List.ext_getElem (by rw [hI.len, hl]) (fun i h1 h2 => ?_)
  have hi : i < xs.length := by omega
  have hat := OrdTo.at hO hi
  have h3 := hI.done (drawsS_final hO) (p := (L.getD i 0).toNat) (by omega)
  rw [ps_of hO hi] at h3
  have e1 : arr.getD i 0 = arr[i] := by simp [List.getD, h1]
  have e2 : L.getD i 0 = L[i] := by simp [List.getD, h2]
  rw [e1] at h3
  rw [h3, ← e2]
  omega

/-! ### The marks as a list -/

/-- Where a mark stands among the marks. -/
def rM (xs : List Int) (p : Nat) : Nat := cnt xs.length (fun q => isMark xs q && sb xs q p)

theorem rM_iff {p q : Nat} (hp : p < xs.length) (hq : q < xs.length) (h1 : isMark xs p = true) (h2 : isMark xs q = true) : rM xs p < rM xs q ↔ sb xs p q = true := by
  have := hO
  have key : ∀ {a b : Nat}, a < xs.length → isMark xs a = true → sb xs a b = true → rM xs a < rM xs b := fun {a b} ha hm h =>
    cnt_lt_cnt (fun q _ hq => by simp at hq ⊢; exact ⟨hq.1, sb_trans hq.2 h⟩) ha (by simp [sb_irrefl]) (by simp [hm, h])
  refine ⟨fun h => ?_, key hp h1⟩
  cases e : sb xs p q with
  | true => rfl
  | false =>
    by_cases hab : p = q
    · subst hab; omega
    · have := key hq h2 (sb_total (by omega) (by omega) hab e)
      omega

theorem ordMarks_sorted : (ordMarks xs L).Pairwise (sl xs) := List.Pairwise.filter _ hO.1
theorem rM_at {k : Nat} (hk : k < (ordMarks xs L).length) : rM xs ((ordMarks xs L).getD k 0).toNat = k := by
  have h1 := countP_sorted (ordMarks_sorted hO) hk
  generalize ((ordMarks xs L).getD k 0).toNat = z at h1 ⊢
  have h2 : (places xs.length).countP (fun q => isMark xs q.toNat && lt (xs.drop q.toNat) (xs.drop z)) = rM xs z := by
    unfold places rM cnt
    rw [List.countP_map]
    rfl
  rw [← h2, ← hO.perm.countP_eq, ← h1]
  unfold ordMarks
  rw [List.countP_filter]
  refine List.countP_congr (fun q _ => ?_)
  simp [and_comm]

theorem lays_final : Lays xs.length (sy xs) (isMark xs) (locF xs L) (rM xs) (fun k => ((ordMarks xs L).getD k 0).toNat) (ordMarks xs L).length (be xs) := by
  have hd := draws_final hO
  refine ⟨fun p hp h => hd.lt p hp (.inr h), fun p q hp hq h1 h2 he => hd.inj p q hp hq (.inr h1) (.inr h2) he, ?_, ?_, ?_⟩
  · intro k hk
    have hm := (mem_ordMarks hO ((ordMarks xs L).getD k 0)).1 (by rw [List.getD, List.getElem?_eq_getElem hk, Option.getD_some]; exact List.getElem_mem hk)
    exact ⟨by omega, hm.2, rM_at hO hk⟩
  · intro p hp h
    have hm := (mem_ordMarks hO (p : Int)).2 ⟨by omega, by simpa using h⟩
    obtain ⟨k, hk, he⟩ := List.getElem_of_mem hm
    have hg : ((ordMarks xs L).getD k 0).toNat = p := by rw [List.getD, List.getElem?_eq_getElem hk, Option.getD_some, he]; rfl
    have := rM_at hO hk
    rw [hg] at this
    rw [this]
    exact ⟨hk, hg⟩
  · intro p hp h
    rw [← (locF_M hO hp h).1]
    congr 1
    refine cnt_congr (fun q hq => ?_)
    cases e : isMark xs q with
    | false => simp
    | true =>
      have : decide (rM xs p < rM xs q) = sb xs p q := by rw [Bool.eq_iff_iff, ← rM_iff hO hp hq h e]; simp
      rw [this]
end

end Go.Proofs.Ytdhehffdddbmbaa

/-! ## MHeads -/

namespace Go.Proofs.Ytdhehffdddbmbaa

/-! ### Heads by the symbols' numbers -/

theorem list_range (l : List Int) : (List.range l.length).map (fun q => l.getD q 0) = l := by
  refine List.ext_getElem (by simp) (fun i h1 h2 => ?_)
  simp [List.getD, h2]
theorem countP_cnt (l : List Int) (P : Int → Bool) : l.countP P = cnt l.length (fun q => P (l.getD q 0)) := by
  unfold cnt
  conv => lhs; rw [← list_range l, List.countP_map]
  rfl

/-- The number of the symbol at p. -/
def dN (xs : List Int) (p : Nat) : Nat := ((dense xs).getD p 0).toNat
theorem dN_at (xs : List Int) (p : Nat) : (dense xs).getD p 0 = (dN xs p : Int) := by
  have := dense_nonneg xs p
  unfold dN; omega
theorem dN_lt {xs : List Int} {p : Nat} (hp : p < xs.length) : dN xs p < kinds xs := by
  have h : dN xs p = cl (dis xs) xs[p] := by simp [dN, dense, List.getD, hp]
  rw [h]
  unfold cl kinds
  refine Nat.lt_of_le_of_ne List.countP_le_length (fun e => ?_)
  have := List.countP_eq_length.1 e xs[p] ((mem_dis _ _).2 (List.getElem_mem hp))
  simp at this
theorem dN_lt_iff {xs : List Int} {p q : Nat} (hp : p < xs.length) (hq : q < xs.length) : dN xs p < dN xs q ↔ sy xs p < sy xs q := by
  rw [sy_at hp, sy_at hq, ← dense_lt hp hq, dN_at, dN_at]; omega
theorem dN_eq_iff {xs : List Int} {p q : Nat} (hp : p < xs.length) (hq : q < xs.length) : dN xs p = dN xs q ↔ sy xs p = sy xs q := by
  rw [sy_at hp, sy_at hq, ← dense_eq hp hq, dN_at, dN_at]; omega

structure Heads (xs hs : List Int) (hd : Int → Nat) : Prop where
  len : kinds xs ≤ hs.length
  at' : ∀ p, p < xs.length → hs.getD (dN xs p) 0 = (hd (sy xs p) : Int)

theorem Heads.lt {xs hs : List Int} {hd : Int → Nat} (h : Heads xs hs hd) {p : Nat} (hp : p < xs.length) : dN xs p < hs.length := Nat.lt_of_lt_of_le (dN_lt hp) h.len
theorem Heads.up {xs hs : List Int} {hd : Int → Nat} (h : Heads xs hs hd) {p : Nat} (hp : p < xs.length) : Heads xs (hs.set (dN xs p) ((hd (sy xs p) : Int) + 1)) (up hd (sy xs p)) := by
  refine ⟨by simpa using h.len, fun q hq => ?_⟩
  unfold Go.Proofs.Ytdhehffdddbmbaa.up
  by_cases e : sy xs q = sy xs p
  · rw [if_pos e, (dN_eq_iff hq hp).2 e, set_at (h.lt hp)]; simp
  · have : dN xs p ≠ dN xs q := fun e2 => e ((dN_eq_iff hp hq).1 e2).symm
    rw [if_neg e, set_not this, h.at' q hq]
theorem Heads.down {xs hs : List Int} {hd : Int → Nat} (h : Heads xs hs hd) {p : Nat} (hp : p < xs.length) {z : Nat} (hz : hd (sy xs p) = z + 1) : Heads xs (hs.set (dN xs p) (z : Int)) (down hd (sy xs p)) := by
  refine ⟨by simpa using h.len, fun q hq => ?_⟩
  unfold Go.Proofs.Ytdhehffdddbmbaa.down
  by_cases e : sy xs q = sy xs p
  · rw [if_pos e, (dN_eq_iff hq hp).2 e, set_at (h.lt hp), hz]; simp
  · have : dN xs p ≠ dN xs q := fun e2 => e ((dN_eq_iff hp hq).1 e2).symm
    rw [if_neg e, set_not this, h.at' q hq]

theorem buckets_at {xs : List Int} {c : Nat} (hc : c ≤ kinds xs) : (buckets xs).getD c 0 = (cnt xs.length (fun q => decide (dN xs q < c)) : Int) := by
  have h1 : (buckets xs).getD c 0 = (cl (dense xs) c : Int) := by simp [buckets, List.getD, show c < kinds xs + 1 by omega]
  rw [h1]
  unfold cl
  rw [countP_cnt, dense_length]
  congr 1
  refine cnt_congr (fun q _ => ?_)
  rw [dN_at, Bool.eq_iff_iff]; simp
theorem Heads.starts (xs : List Int) : Heads xs (buckets xs) (bs xs) := by
  refine ⟨by rw [buckets_length]; omega, fun p hp => ?_⟩
  rw [buckets_at (Nat.le_of_lt (dN_lt hp))]
  unfold bs
  congr 1
  refine cnt_congr (fun q hq => ?_)
  rw [Bool.eq_iff_iff]; simp [dN_lt_iff hq hp]
theorem Heads.ends (xs : List Int) : Heads xs ((buckets xs).drop 1) (be xs) := by
  refine ⟨by rw [List.length_drop, buckets_length]; omega, fun p hp => ?_⟩
  have h1 : ((buckets xs).drop 1).getD (dN xs p) 0 = (buckets xs).getD (dN xs p + 1) 0 := by simp [List.getD, Nat.add_comm]
  rw [h1, buckets_at (dN_lt hp)]
  unfold be
  congr 1
  refine cnt_congr (fun q hq => ?_)
  have := dN_lt_iff hp hq
  rw [Bool.eq_iff_iff]; simp; omega

/-! ### Marks are laid -/

def low (l : List Int) : Prop := ∀ j, -1 ≤ l.getD j 0
theorem low.set {l : List Int} (h : low l) (i p : Nat) : low (l.set i (p : Int)) := by
  intro j
  by_cases e : i = j
  · subst e
    by_cases hi : i < l.length
    · rw [set_at hi]; omega
    · rw [List.set_eq_of_length_le (by omega)]; exact h i
  · rw [set_not e]; exact h j
theorem low.free (n : Nat) : low (List.replicate n (-1)) := by
  intro j
  by_cases h : j < n
  · simp [List.getD, h]
  · simp [List.getD, h]

structure Lay (xs L : List Int) (i : Nat) (arr ends : List Int) : Prop where
  low : low arr
  ex : ∃ tl, Heads xs ends tl ∧ Laid xs.length (sy xs) (isMark xs) (locF xs L) (rM xs) (be xs) i arr tl

section
variable {xs L : List Int} (hO : Ord xs L)
include hO

theorem Lay.start : Lay xs L (ordMarks xs L).length (List.replicate xs.length (-1)) ((buckets xs).drop 1) :=
  ⟨low.free _, be xs, Heads.ends xs, Laid.start (lays_final hO) (by simp) (fun j hj => by simp [List.getD, hj]) (fun _ => rfl)⟩
theorem Lay.lay {i : Nat} {arr ends : List Int} (h : Lay xs L (i + 1) arr ends) {p : Nat} (hi : i < (ordMarks xs L).length) (hp : (ordMarks xs L).getD i 0 = (p : Int)) :
    p < xs.length ∧ dN xs p < ends.length ∧ ∃ z : Nat, ends.getD (dN xs p) 0 = (z : Int) + 1 ∧ z < xs.length ∧ z < arr.length ∧ Lay xs L i (arr.set z p) (ends.set (dN xs p) z) := by
  obtain ⟨hlow, tl, hH, hI⟩ := h
  have hpn : p < xs.length := by
    have := ((lays_final hO).mk_lt i hi).1
    simp only [hp, Int.toNat_natCast] at this
    exact this
  obtain ⟨h1, h2, h3⟩ := hI.lay (lays_final hO) hi (p := p) (by rw [hp, Int.toNat_natCast])
  obtain ⟨z, hz⟩ : ∃ z, tl (sy xs p) = z + 1 := ⟨tl (sy xs p) - 1, by omega⟩
  refine ⟨hpn, hH.lt hpn, z, by rw [hH.at' p hpn, hz]; rfl, by omega, by rw [hI.len]; omega, hlow.set _ _, down tl (sy xs p), hH.down hpn hz, ?_⟩
  rw [show z = tl (sy xs p) - 1 by omega]; exact h1

/-! ### The L are drawn in from the left -/

/-- Where an L stands in the first list it stands in the second. -/
def Fol (D : Nat → Bool) (a b : List Int) : Prop := a.length = b.length ∧ ∀ j p : Nat, j < a.length → D p = true → a.getD j 0 = (p : Int) → b.getD j 0 = (p : Int)
omit hO in
theorem Fol.set {D : Nat → Bool} {a b : List Int} (h : Fol D a b) (i : Nat) (v : Int) : Fol D (a.set i v) (b.set i v) := by
  refine ⟨by simp [h.1], fun j p hj hD hp => ?_⟩
  rw [List.length_set] at hj
  by_cases e : i = j
  · subst e
    rw [set_at hj] at hp
    rw [set_at (by rw [← h.1]; exact hj), hp]
  · rw [set_not e] at hp ⊢
    exact h.2 j p hj hD hp

structure Fall (xs L : List Int) (t : Nat) (kn fa hs : List Int) : Prop where
  fol : Fol (gt xs) kn fa
  len : kn.length = xs.length
  low : low kn
  ex : ∃ hd, Heads xs hs hd ∧ ((t = 0 ∧ (∀ c, hd c = bs xs c) ∧ (∀ p, p < xs.length → isMark xs p = true → kn.getD (locF xs L p) 0 = p) ∧ (∀ j, j < xs.length → 0 ≤ kn.getD j 0 → ∃ p, p < xs.length ∧ kn.getD j 0 = (p : Int) ∧ locF xs L p = j ∧ isMark xs p = true)) ∨ ∃ i, t = i + 1 ∧ DrawnL xs.length (sy xs) (gt xs) (isMark xs) (locF xs L) (bs xs) i kn hd)

omit hO in
theorem gt_mark {p : Nat} (h : gt xs p = true) : isMark xs p = false := by
  cases e : isMark xs p with
  | false => rfl
  | true => rw [mark_not e] at h; cases h

theorem Fall.start {kn ends : List Int} (h : Lay xs L 0 kn ends) : Fall xs L 0 kn (List.replicate xs.length (-1)) (buckets xs) := by
  have := hO
  obtain ⟨hlow, tl, -, hI⟩ := h
  refine ⟨⟨by simp [hI.len], fun j p hj hD hp => ?_⟩, hI.len, hlow, bs xs, Heads.starts xs, .inl ⟨rfl, fun _ => rfl, fun p hp hM => hI.laid p hp hM (Nat.zero_le _), fun j hj h0 => ?_⟩⟩
  · rw [hI.len] at hj
    obtain ⟨q, hq, h1, _, h3, _⟩ := hI.free j hj (by rw [hp]; omega)
    obtain rfl : p = q := by rw [hp] at h1; omega
    rw [gt_mark hD] at h3; cases h3
  · obtain ⟨q, hq, h1, h2, h3, _⟩ := hI.free j hj h0
    exact ⟨q, hq, h1, h2, h3⟩
theorem Fall.none {kn fa hs : List Int} (h : Fall xs L 0 kn fa hs) (hn : xs.length = 0) : Fall xs L 1 kn fa hs := by
  obtain ⟨h1, h2, h3, hd, hH, hc⟩ := h
  have := hO
  rcases hc with ⟨_, hb, _, _⟩ | ⟨i, hi, _⟩
  · refine ⟨h1, h2, h3, hd, hH, .inr ⟨0, rfl, ⟨h2, fun p hp => by omega, fun p hp => by omega, fun j hj => by omega, fun c => ?_⟩⟩⟩
    rw [hb, hn]; rfl
  · omega
theorem Fall.first {kn fa hs : List Int} (h : Fall xs L 0 kn fa hs) {p : Nat} (hp : p + 1 = xs.length) :
    dN xs p < hs.length ∧ ∃ z : Nat, hs.getD (dN xs p) 0 = (z : Int) ∧ z < xs.length ∧ z < kn.length ∧ z < fa.length ∧ Fall xs L 1 (kn.set z p) (fa.set z p) (hs.set (dN xs p) ((z : Int) + 1)) := by
  obtain ⟨h1, h2, h3, hd, hH, hc⟩ := h
  have hpn : p < xs.length := by omega
  rcases hc with ⟨_, hb, hM, hF⟩ | ⟨i, hi, _⟩
  · obtain ⟨g1, g2⟩ := DrawnL.start (draws_final hO) h2 hM (fun q _ hq => gt_mark hq) hF hb hp
    refine ⟨hH.lt hpn, hd (sy xs p), hH.at' p hpn, g2, by omega, by rw [← h1.1]; omega, h1.set _ _, by simp [h2], h3.set _ _, up hd (sy xs p), hH.up hpn, .inr ⟨0, rfl, g1⟩⟩
  · omega
theorem Fall.skip {i : Nat} {kn fa hs : List Int} (h : Fall xs L (i + 1) kn fa hs) (hn : ∀ p, p + 1 < xs.length → kn.getD i 0 = ((p + 1 : Nat) : Int) → gt xs p = false) : Fall xs L (i + 2) kn fa hs := by
  obtain ⟨h1, h2, h3, hd, hH, hc⟩ := h
  rcases hc with ⟨h0, _⟩ | ⟨i', hi, hI⟩
  · omega
  · obtain rfl : i = i' := by omega
    exact ⟨h1, h2, h3, hd, hH, .inr ⟨i + 1, rfl, hI.skip (draws_final hO) hn⟩⟩
theorem Fall.draw {i : Nat} {kn fa hs : List Int} (h : Fall xs L (i + 1) kn fa hs) (hi : i < xs.length) {p : Nat} (hp1 : p + 1 < xs.length) (hat : kn.getD i 0 = ((p + 1 : Nat) : Int)) (hD : gt xs p = true) :
    dN xs p < hs.length ∧ ∃ z : Nat, hs.getD (dN xs p) 0 = (z : Int) ∧ z < xs.length ∧ z < kn.length ∧ z < fa.length ∧ Fall xs L (i + 2) (kn.set z p) (fa.set z p) (hs.set (dN xs p) ((z : Int) + 1)) := by
  obtain ⟨h1, h2, h3, hd, hH, hc⟩ := h
  have hpn : p < xs.length := by omega
  rcases hc with ⟨h0, _⟩ | ⟨i', hi', hI⟩
  · omega
  · obtain rfl : i = i' := by omega
    obtain ⟨g1, g2, _⟩ := hI.draw (draws_final hO) (fun q _ hq => gt_mark hq) hi hp1 hat hD
    refine ⟨hH.lt hpn, hd (sy xs p), hH.at' p hpn, g2, by omega, by rw [← h1.1]; omega, h1.set _ _, by simp [h2], h3.set _ _, up hd (sy xs p), hH.up hpn, .inr ⟨i + 1, rfl, g1⟩⟩
theorem Fall.range {i : Nat} {kn fa hs : List Int} (h : Fall xs L (i + 1) kn fa hs) {j : Nat} (hj : j < xs.length) : -1 ≤ kn.getD j 0 ∧ kn.getD j 0 < xs.length := by
  have := hO
  obtain ⟨h1, h2, h3, hd, hH, hc⟩ := h
  rcases hc with ⟨h0, _⟩ | ⟨i', hi', hI⟩
  · omega
  · exact ⟨h3 j, hI.range hj⟩
theorem Fall.done {i : Nat} {kn fa hs : List Int} (h : Fall xs L (i + 1) kn fa hs) (hi : xs.length ≤ i) : fa.length = xs.length ∧ ∀ p, p < xs.length → gt xs p = true → fa.getD (ps L p) 0 = (p : Int) := by
  obtain ⟨h1, h2, h3, hd, hH, hc⟩ := h
  refine ⟨by rw [← h1.1, h2], fun p hp hD => ?_⟩
  rcases hc with ⟨h0, _⟩ | ⟨i', hi', hI⟩
  · omega
  · obtain rfl : i = i' := by omega
    have h4 := hI.done (draws_final hO) hi hp hD
    rw [locF_L hO hD] at h4
    exact h1.2 _ p (by rw [h2]; exact ps_lt hO hp) hD h4

/-! ### What is no L is drawn in from the right -/

structure Rise (xs L : List Int) (i : Nat) (arr ends : List Int) : Prop where
  len : arr.length = xs.length
  ex : ∃ tl, Heads xs ends tl ∧ DrawnS xs.length (sy xs) (fun p => !gt xs p) (ps L) (be xs) i arr tl

theorem Rise.start {fa : List Int} (hl : fa.length = xs.length) (h : ∀ p, p < xs.length → gt xs p = true → fa.getD (ps L p) 0 = (p : Int)) : Rise xs L xs.length fa ((buckets xs).drop 1) :=
  ⟨hl, be xs, Heads.ends xs, DrawnS.start (drawsS_final hO) hl (fun p hp hD => h p hp (by simpa using hD)) (fun _ => rfl)⟩
theorem Rise.read {i : Nat} {arr ends : List Int} (h : Rise xs L (i + 1) arr ends) (hi : i < xs.length) : ∃ o : Nat, arr.getD i 0 = (o : Int) ∧ o < xs.length := by
  obtain ⟨_, tl, _, hI⟩ := h
  exact ⟨_, hI.read (drawsS_final hO) hi, ((drawsS_final hO).oF_lt i hi).1⟩
theorem Rise.skip {i : Nat} {arr ends : List Int} (h : Rise xs L (i + 1) arr ends) (hi : i < xs.length) (hn : ∀ p : Nat, arr.getD i 0 = ((p + 1 : Nat) : Int) → gt xs p = true) : Rise xs L i arr ends := by
  obtain ⟨hl, tl, hH, hI⟩ := h
  refine ⟨hl, tl, hH, hI.skip (drawsS_final hO) hi (fun p hp => ?_)⟩
  rw [hn p (by rw [hI.read (drawsS_final hO) hi, hp])]; rfl
theorem Rise.draw {i : Nat} {arr ends : List Int} (h : Rise xs L (i + 1) arr ends) (hi : i < xs.length) {p : Nat} (hat : arr.getD i 0 = ((p + 1 : Nat) : Int)) (hD : gt xs p = false) :
    p < xs.length ∧ dN xs p < ends.length ∧ ∃ z : Nat, ends.getD (dN xs p) 0 = (z : Int) + 1 ∧ z < xs.length ∧ z < arr.length ∧ Rise xs L i (arr.set z p) (ends.set (dN xs p) z) := by
  obtain ⟨hl, tl, hH, hI⟩ := h
  have hr := hI.read (drawsS_final hO) hi
  have ho : (L.getD i 0).toNat = p + 1 := by rw [hr] at hat; omega
  have hlt := ((drawsS_final hO).oF_lt i hi).1
  have hpn : p < xs.length := by simp only [ho] at hlt; omega
  obtain ⟨g1, g2, g3⟩ := hI.draw (drawsS_final hO) hi (p := p) ho (by rw [hD]; rfl)
  obtain ⟨z, hz⟩ : ∃ z, tl (sy xs p) = z + 1 := ⟨tl (sy xs p) - 1, by omega⟩
  refine ⟨hpn, hH.lt hpn, z, by rw [hH.at' p hpn, hz]; rfl, by omega, by omega, by simp [hl], down tl (sy xs p), hH.down hpn hz, ?_⟩
  rw [show z = tl (sy xs p) - 1 by omega]; exact g1
theorem Rise.done {arr ends : List Int} (h : Rise xs L 0 arr ends) : arr = L := by
  obtain ⟨_, tl, _, hI⟩ := h
  exact drawn_order hO hI
end

/-! ### Pieces cut out of weights -/

def inc (l : List Int) : List Int := l.map (fun x => x + 1)
theorem inc_length (l : List Int) : (inc l).length = l.length := by simp [inc]
theorem lt_inc : ∀ a b : List Int, lt (inc a) (inc b) = lt a b
  | [], b => by rw [show inc [] = [] from rfl, lt_nil, lt_nil, inc_length]
  | a :: r, [] => by rw [show inc [] = [] from rfl, lt_to_nil, lt_to_nil]
  | a :: r, b :: s => by
    show lt ((a + 1) :: inc r) ((b + 1) :: inc s) = _
    rw [lt_cons, lt_cons, lt_inc r s]
    by_cases h : a = b
    · rw [if_pos h, if_pos (by omega)]
    · rw [if_neg h, if_neg (by omega), Bool.eq_iff_iff]; simp
theorem inc_inj {a b : List Int} : inc a = inc b ↔ a = b := by
  refine ⟨fun h => ?_, fun h => by rw [h]⟩
  exact List.map_inj_right (fun x y h => by omega) |>.1 h

theorem full_drop {xs : List Int} : ∀ p, p ≤ xs.length → full xs p = (full xs 0).drop p
  | 0, _ => rfl
  | p + 1, h => by
    have ih := full_drop (xs := xs) p (by omega)
    rw [full_cons (show p < xs.length by omega)] at ih
    rw [← List.drop_drop, ← ih]
    rfl
theorem full_length (xs : List Int) : (full xs 0).length = xs.length + 1 := by simp [full, pieceTo]

/-- For each place twice its symbol's number and 1, or 2 where it is no L; at last 0. -/
def wts (xs : List Int) : List Int := inc (full xs 0)
theorem wts_length (xs : List Int) : (wts xs).length = xs.length + 1 := by rw [wts, inc_length, full_length]
/-- A mark's piece, each number one greater. -/
def ic (xs : List Int) (i : Nat) : List Int := inc (pc xs i)
theorem ic_length {xs : List Int} {i : Nat} (h : i < (marks xs).length) : (ic xs i).length = nx xs i + 1 - mk xs i := by
  have h1 := mk_nx h
  rw [ic, inc_length, pc_mk, piece_length (by omega) (mk_lt h).1 h1.2]
theorem ic_cut {xs : List Int} {i : Nat} (h : i < (marks xs).length) : ic xs i = ((wts xs).drop (mk xs i)).take (nx xs i + 1 - mk xs i) := by
  have h1 := mk_nx h
  rw [ic, pc_mk, piece_take (by omega) (mk_lt h).1 h1.2, full_drop _ (by omega)]
  unfold wts inc
  rw [List.map_take, List.map_drop]

/-- The weights while they are made. -/
structure Wt (xs ds : List Int) (n : Nat) : Prop where
  len : ds.length = xs.length
  did : ∀ j, j < n → j < xs.length → ds.getD j 0 = code xs j + 1
  yet : ∀ j, n ≤ j → ds.getD j 0 = (dense xs).getD j 0
theorem Wt.start (xs : List Int) : Wt xs (dense xs) 0 := ⟨dense_length xs, fun j h => by omega, fun _ _ => rfl⟩
theorem Wt.step {xs ds : List Int} {n : Nat} (h : Wt xs ds n) (hn : n < xs.length) {v : Int} (hv : v = code xs n + 1) : Wt xs (ds.set n v) (n + 1) := by
  refine ⟨by simp [h.len], fun j h1 h2 => ?_, fun j h1 => ?_⟩
  · by_cases e : n = j
    · subst e; rw [set_at (by rw [h.len]; exact hn), hv]
    · rw [set_not e]; exact h.did j (by omega) h2
  · rw [set_not (by omega)]; exact h.yet j (by omega)
theorem Wt.done {xs ds : List Int} {n : Nat} (h : Wt xs ds n) (hn : xs.length ≤ n) : ds ++ [0] = wts xs := by
  refine List.ext_getElem (by rw [wts_length]; simp [h.len]) (fun i h1 h2 => ?_)
  rw [wts_length] at h2
  have hf : (wts xs)[i]'(by rw [wts_length]; exact h2) = (full xs 0).getD i 0 + 1 := by
    simp only [wts, inc, List.getElem_map]
    rw [List.getD, List.getElem?_eq_getElem (by rw [full_length]; exact h2), Option.getD_some]
  rw [hf]
  rcases Nat.lt_or_ge i xs.length with hi | hi
  · rw [List.getElem_append_left (by rw [h.len]; exact hi)]
    have := h.did i (by omega) hi
    rw [List.getD, List.getElem?_eq_getElem (by rw [h.len]; exact hi), Option.getD_some] at this
    rw [this]
    congr 1
    simp [full, pieceTo, List.getD, List.getElem?_append, hi]
  · have e : i = xs.length := by omega
    subst e
    rw [List.getElem_append_right (by rw [h.len]; exact Nat.le_refl _)]
    simp [full, pieceTo, List.getD, h.len]

/-! ### Each piece once -/

def dif (xs : List Int) (n : Nat) : List (List Int) := ((List.range n).filter (fun m => !hadTo xs m m)).map (ic xs)
theorem dif_succ (xs : List Int) (n : Nat) : dif xs (n + 1) = dif xs n ++ if hadTo xs n n = true then [] else [ic xs n] := by
  unfold dif
  rw [List.range_succ, List.filter_append, List.map_append]
  congr 1
  cases h : hadTo xs n n <;> simp [h]
theorem dif_length_le (xs : List Int) (n : Nat) : (dif xs n).length ≤ n := by
  have := List.length_filter_le (fun m => !hadTo xs m m) (List.range n)
  simpa [dif] using this
theorem dif_mem {xs : List Int} {n : Nat} : ic xs n ∈ dif xs n ↔ hadTo xs n n = true := by
  unfold dif
  rw [List.mem_map]
  constructor
  · rintro ⟨m, hm, he⟩
    rw [List.mem_filter, List.mem_range] at hm
    cases e : hadTo xs n n with
    | true => rfl
    | false => exact absurd (inc_inj.1 he) (hadTo_false.1 e m hm.1)
  · intro h
    have h1 : ∃ m, m < n ∧ pc xs m = pc xs n := by
      apply Classical.byContradiction
      intro hno
      rw [hadTo_false.2 (fun m hm he => hno ⟨m, hm, he⟩)] at h; cases h
    obtain ⟨m, hm, he⟩ := h1
    obtain ⟨k, hk, he2, hh⟩ := first_had (xs := xs) m
    refine ⟨k, ?_, by unfold ic; rw [he2, he]⟩
    rw [List.mem_filter, List.mem_range, hh]
    exact ⟨by omega, rfl⟩
theorem dif_count (xs : List Int) (i : Nat) : (dif xs (marks xs).length).countP (fun l => lt l (ic xs i)) = nm xs i := by
  unfold dif nm nameCnt
  rw [List.countP_map, List.countP_filter]
  refine List.countP_congr (fun q _ => ?_)
  simp [ic, lt_inc]

end Go.Proofs.Ytdhehffdddbmbaa

/-! ## MTurn -/

namespace Go.Proofs.Ytdhehffdddbmbaa

/-! ### From the right on, with free places -/

/-- What is drawn in (D) and what lies there at the start (M), each at a place of its own; what is drawn in stands ahead of its next one, and in its bucket (key) ahead of those whose next ones stand behind its own next one. -/
structure DrawsR (n : Nat) (key : Nat → Int) (D M : Nat → Bool) (loc : Nat → Nat) (be : Int → Nat) : Prop where
  lt : ∀ p, p < n → D p = true ∨ M p = true → loc p < n
  inj : ∀ p q, p < n → q < n → D p = true ∨ M p = true → D q = true ∨ M q = true → loc p = loc q → p = q
  next : ∀ p, p < n → D p = true → p + 1 < n ∧ (D (p + 1) = true ∨ M (p + 1) = true) ∧ loc p < loc (p + 1)
  goes : ∀ p, p < n → D p = true → loc p + 1 + cnt n (fun q => decide (key q = key p) && D q && decide (loc (p + 1) < loc (q + 1))) = be (key p)

structure DrawnR (n : Nat) (key : Nat → Int) (D M : Nat → Bool) (loc : Nat → Nat) (be : Int → Nat) (i : Nat) (arr : List Int) (tl : Int → Nat) : Prop where
  len : arr.length = n
  laid : ∀ p, p < n → M p = true → arr.getD (loc p) 0 = p
  drawn : ∀ p, p < n → D p = true → i ≤ loc (p + 1) → arr.getD (loc p) 0 = p
  free : ∀ j, j < n → 0 ≤ arr.getD j 0 → ∃ p, p < n ∧ arr.getD j 0 = (p : Int) ∧ loc p = j ∧ (M p = true ∨ D p = true ∧ i ≤ loc (p + 1))
  tail : ∀ c, tl c + cnt n (fun q => decide (key q = c) && D q && decide (i ≤ loc (q + 1))) = be c

section
variable {n : Nat} {key : Nat → Int} {D M : Nat → Bool} {loc : Nat → Nat} {be : Int → Nat} {i : Nat} {arr : List Int} {tl : Int → Nat}

theorem DrawnR.start (h : DrawsR n key D M loc be) (hl : arr.length = n) (hM : ∀ p, p < n → M p = true → arr.getD (loc p) 0 = p) (hF : ∀ j, j < n → 0 ≤ arr.getD j 0 → ∃ p, p < n ∧ arr.getD j 0 = (p : Int) ∧ loc p = j ∧ M p = true) (ht : ∀ c, tl c = be c) : DrawnR n key D M loc be n arr tl := by
  have hlt : ∀ q, q < n → D q = true → loc (q + 1) < n := fun q hq hD => h.lt (q + 1) (h.next q hq hD).1 (h.next q hq hD).2.1
  refine ⟨hl, hM, ?_, ?_, ?_⟩
  · intro p hp hD h1
    have := hlt p hp hD
    omega
  · intro j hj h0
    obtain ⟨p, hp, h1, h2, h3⟩ := hF j hj h0
    exact ⟨p, hp, h1, h2, .inl h3⟩
  · intro c
    rw [ht, cnt_none, Nat.add_zero]
    intro q hq
    cases e : D q with
    | false => simp
    | true =>
      have := hlt q hq e
      simp; intro _; omega

theorem DrawnR.skip (h : DrawsR n key D M loc be) (hI : DrawnR n key D M loc be (i + 1) arr tl) (hn : ∀ p, p + 1 < n → arr.getD i 0 = ((p + 1 : Nat) : Int) → D p = false) : DrawnR n key D M loc be i arr tl := by
  have hne : ∀ q, q < n → D q = true → loc (q + 1) ≠ i := by
    intro q hq hD e
    obtain ⟨g1, g2, g3⟩ := h.next q hq hD
    have hat : arr.getD i 0 = ((q + 1 : Nat) : Int) := by
      rw [← e]
      rcases g2 with hc | hc
      · exact hI.drawn (q + 1) g1 hc (by have := (h.next (q + 1) g1 hc).2.2; omega)
      · exact hI.laid (q + 1) g1 hc
    rw [hn q g1 hat] at hD; cases hD
  have hdec : ∀ q, q < n → D q = true → decide (i ≤ loc (q + 1)) = decide (i + 1 ≤ loc (q + 1)) := fun q hq hD => by
    have := hne q hq hD
    rw [Bool.eq_iff_iff]; simp; omega
  refine ⟨hI.len, hI.laid, ?_, ?_, ?_⟩
  · intro p hp hD h1
    have := hne p hp hD
    exact hI.drawn p hp hD (by omega)
  · intro j hj h0
    obtain ⟨p, hp, h1, h2, h3⟩ := hI.free j hj h0
    refine ⟨p, hp, h1, h2, ?_⟩
    rcases h3 with h3 | ⟨h3, h4⟩
    · exact .inl h3
    · exact .inr ⟨h3, by omega⟩
  · intro c
    rw [← hI.tail c]
    congr 1
    refine cnt_congr (fun q hq => ?_)
    cases e : D q with
    | false => simp
    | true => rw [hdec q hq e]

theorem DrawnR.draw (h : DrawsR n key D M loc be) (hDM : ∀ p, p < n → D p = true → M p = false) (hI : DrawnR n key D M loc be (i + 1) arr tl) (hi : i < n) {p : Nat} (hat : arr.getD i 0 = ((p + 1 : Nat) : Int)) (hD : D p = true) :
    DrawnR n key D M loc be i (arr.set (tl (key p) - 1) p) (down tl (key p)) ∧ p + 1 < n ∧ 1 ≤ tl (key p) ∧ tl (key p) ≤ i := by
  obtain ⟨p', hp', e1, g2, g3⟩ := hI.free i hi (by rw [hat]; omega)
  obtain rfl : p' = p + 1 := by rw [hat] at e1; omega
  have hp : p < n := by omega
  have hgo := h.goes p hp hD
  have hlt := h.lt p hp (.inl hD)
  have hnx := (h.next p hp hD).2.2
  have he : tl (key p) = loc p + 1 := by
    have h1 := hI.tail (key p)
    rw [← hgo] at h1
    have h2 : cnt n (fun q => decide (key q = key p) && D q && decide (i + 1 ≤ loc (q + 1))) = cnt n (fun q => decide (key q = key p) && D q && decide (loc (p + 1) < loc (q + 1))) := by
      rw [g2]; rfl
    omega
  have he1 : tl (key p) - 1 = loc p := by omega
  have hne : ∀ q, q < n → q ≠ p → D q = true → loc (q + 1) ≠ i := by
    intro q hq hqp hDq e
    have := h.inj (q + 1) (p + 1) (h.next q hq hDq).1 (by omega) (h.next q hq hDq).2.1 (h.next p hp hD).2.1 (by omega)
    omega
  refine ⟨⟨by simp [hI.len], ?_, ?_, ?_, ?_⟩, by omega, by omega, by omega⟩
  · intro q hq hMq
    have : loc p ≠ loc q := fun e => by
      have := h.inj p q hp hq (.inl hD) (.inr hMq) e
      subst this
      rw [hDM p hp hD] at hMq; cases hMq
    rw [he1, set_not this]
    exact hI.laid q hq hMq
  · intro q hq hDq h1
    by_cases e : q = p
    · subst e; rw [he1]; exact set_at (by rw [hI.len]; omega) _
    · have h2 : loc p ≠ loc q := fun e2 => e (h.inj p q hp hq (.inl hD) (.inl hDq) e2).symm
      have h3 := hne q hq e hDq
      rw [he1, set_not h2]
      exact hI.drawn q hq hDq (by omega)
  · intro j hj h0
    by_cases e : loc p = j
    · subst e
      exact ⟨p, hp, by rw [he1]; exact set_at (by rw [hI.len]; omega) _, rfl, .inr ⟨hD, by omega⟩⟩
    · rw [he1, set_not e] at h0 ⊢
      obtain ⟨q, hq, h1, h2, h3⟩ := hI.free j hj h0
      refine ⟨q, hq, h1, h2, ?_⟩
      rcases h3 with h3 | ⟨h3, h4⟩
      · exact .inl h3
      · exact .inr ⟨h3, by omega⟩
  · intro c
    unfold down
    have hb := hI.tail c
    by_cases e : c = key p
    · subst e
      rw [if_pos rfl]
      have := cnt_add (n := n) (p := p) (P := fun q => decide (key q = key p) && D q && decide (i + 1 ≤ loc (q + 1))) (Q := fun q => decide (key q = key p) && D q && decide (i ≤ loc (q + 1))) (by simp; intro _; omega) (by simp [hD]; omega) hp (fun q hq hqp => by
        cases e3 : D q with
        | false => simp
        | true =>
          have h4 := hne q hq hqp e3
          have : decide (i + 1 ≤ loc (q + 1)) = decide (i ≤ loc (q + 1)) := by rw [Bool.eq_iff_iff]; simp; omega
          rw [this])
      omega
    · rw [if_neg e, ← hb]
      congr 1
      refine cnt_congr (fun q hq => ?_)
      by_cases e2 : q = p
      · subst e2; simp [show ¬ key q = c from fun h => e h.symm]
      · cases e3 : D q with
        | false => simp
        | true =>
          have h4 := hne q hq e2 e3
          have : decide (i ≤ loc (q + 1)) = decide (i + 1 ≤ loc (q + 1)) := by rw [Bool.eq_iff_iff]; simp; omega
          rw [this]

theorem DrawnR.done (hI : DrawnR n key D M loc be 0 arr tl) {p : Nat} (hp : p < n) (h : D p = true ∨ M p = true) : arr.getD (loc p) 0 = p := by
  rcases h with h | h
  · exact hI.drawn p hp h (Nat.zero_le _)
  · exact hI.laid p hp h
theorem DrawnR.range (hI : DrawnR n key D M loc be i arr tl) {j : Nat} (hj : j < n) : arr.getD j 0 < n := by
  rcases Int.lt_or_le (arr.getD j 0) 0 with h0 | h0
  · omega
  · obtain ⟨p, hp, h1, _⟩ := hI.free j hj h0
    omega
end

/-! ### Then the L from the left: all others are there -/

section
variable {xs L : List Int} (hO : Ord xs L)
include hO

theorem draws_rest : Draws xs.length (sy xs) (gt xs) (fun p => !gt xs p) (ps L) (bs xs) := by
  refine ⟨fun p hp _ => ps_lt hO hp, fun p q hp hq _ _ h => ps_inj hO hp hq h, ?_, ?_, ?_⟩
  · intro p hp h
    refine ⟨?_, (ps_lt_iff hO hp (by omega)).1 (sb_gt h)⟩
    cases gt xs (p + 1) <;> simp
  · intro p hp
    exact ⟨gt_last (by omega), ps_last hO hp⟩
  · intro p hp h
    exact ps_drawL hO hp h (ps L) (fun a b ha hb _ _ => ps_lt_iff hO ha hb)

theorem rest_order {arr : List Int} {hd : Int → Nat} {i : Nat} (hI : DrawnL xs.length (sy xs) (gt xs) (fun p => !gt xs p) (ps L) (bs xs) i arr hd) (hi : xs.length ≤ i) : arr = L := by
  have hl := OrdTo.length hO
  refine List.ext_getElem (by rw [hI.len, hl]) (fun i h1 h2 => ?_)
  have hi2 : i < xs.length := by omega
  have hat := OrdTo.at hO hi2
  have h3 : arr.getD (ps L (L.getD i 0).toNat) 0 = ((L.getD i 0).toNat : Int) := by
    cases e : gt xs (L.getD i 0).toNat with
    | true => exact hI.done (draws_rest hO) hi (by omega) e
    | false => exact hI.laid _ (by omega) (by rw [e]; rfl)
  rw [ps_of hO hi2] at h3
  have e1 : arr.getD i 0 = arr[i] := by simp [List.getD, h1]
  have e2 : L.getD i 0 = L[i] := by simp [List.getD, h2]
  rw [e1] at h3
  rw [h3, ← e2]
  omega
end

/-! ### Turns among what is no L -/

/-- A turn: no L, followed by an L. -/
theorem turn_iff {xs : List Int} {p : Nat} : isTurn xs p = true ↔ gt xs p = false ∧ gt xs (p + 1) = true ∧ p + 1 < xs.length := by
  unfold isTurn
  simp only [Bool.and_eq_true, decide_eq_true_eq]
  have e1 := kd_L_iff xs p
  have e2 := kd_L_iff xs (p + 1)
  constructor
  · rintro ⟨⟨h1, h2⟩, h3⟩
    refine ⟨?_, e2.1 h3, h2⟩
    cases e : gt xs p with
    | true => exact absurd (e1.2 e) h1
    | false => rfl
  · rintro ⟨h1, h2, h3⟩
    refine ⟨⟨fun h => ?_, h3⟩, e2.2 h2⟩
    rw [e1.1 h] at h1
    cases h1
theorem S_next {xs : List Int} {p : Nat} (hp : p < xs.length) (h : gt xs p = false) : p + 1 < xs.length := by
  rcases Nat.lt_or_ge (p + 1) xs.length with h1 | h1
  · exact h1
  · rw [gt_last (by omega)] at h; cases h
theorem notTurn_iff {xs : List Int} {p : Nat} (hp : p < xs.length) (h : gt xs p = false) : isTurn xs p = false ↔ gt xs (p + 1) = false := by
  have h1 := turn_iff (xs := xs) (p := p)
  have h2 := S_next hp h
  constructor
  · intro e
    cases e2 : gt xs (p + 1) with
    | false => rfl
    | true => rw [h1.2 ⟨h, e2, h2⟩] at e; cases e
  · intro e
    cases e2 : isTurn xs p with
    | false => rfl
    | true => rw [(h1.1 e2).2.1] at e; cases e

/-- Where what is no L and begins with these two symbols ends in the order. -/
def be2 (xs : List Int) (c d : Int) : Nat := cnt xs.length (fun q => decide (sy xs q < c) || (decide (sy xs q = c) && (gt xs q || decide (sy xs (q + 1) ≤ d))))
/-- No L, and the same two symbols. -/
def pair (xs : List Int) (p q : Nat) : Bool := decide (sy xs q = sy xs p) && !gt xs q && decide (sy xs (q + 1) = sy xs (p + 1))

section
variable {xs L : List Int} (hO : Ord xs L)
include hO

/-- What is no L: ahead of those with the same two symbols whose next ones are greater. -/
theorem ps_pair {p : Nat} (hp : p < xs.length) (hg : gt xs p = false) : ps L p + 1 + cnt xs.length (fun q => pair xs p q && sb xs (p + 1) (q + 1)) = be2 xs (sy xs p) (sy xs (p + 1)) := by
  have hp1 := S_next hp hg
  unfold be2
  have hsp := cnt_split (fun q => decide (sy xs q < sy xs p) || (decide (sy xs q = sy xs p) && (gt xs q || decide (sy xs (q + 1) ≤ sy xs (p + 1))))) (fun q => sb xs q p) xs.length
  rw [ps_cnt hO hp]
  have h1 : cnt xs.length (fun q => (decide (sy xs q < sy xs p) || (decide (sy xs q = sy xs p) && (gt xs q || decide (sy xs (q + 1) ≤ sy xs (p + 1))))) && sb xs q p) = cnt xs.length (fun q => sb xs q p) := by
    refine cnt_congr (fun q hq => ?_)
    cases e : sb xs q p with
    | false => simp
    | true =>
      have := sb_sy hq hp e
      rcases Int.lt_or_eq_of_le this with h | h
      · simp [h]
      · cases e2 : gt xs q with
        | true => simp [h]
        | false =>
          rw [sb_same hq hp h] at e
          have := sb_sy (S_next hq e2) hp1 e
          simp [h, this]
  have h2 : cnt xs.length (fun q => (decide (sy xs q < sy xs p) || (decide (sy xs q = sy xs p) && (gt xs q || decide (sy xs (q + 1) ≤ sy xs (p + 1))))) && !sb xs q p) = cnt xs.length (fun q => pair xs p q && sb xs (p + 1) (q + 1)) + 1 := by
    refine cnt_add (p := p) (by simp [sb_irrefl]) (by simp [sb_irrefl]) hp (fun q hq hne => ?_)
    by_cases hc : sy xs q < sy xs p
    · rw [sb_lt hq hp hc]
      simp [pair, show ¬ sy xs q = sy xs p by omega]
    · by_cases he : sy xs q = sy xs p
      · cases e2 : gt xs q with
        | true =>
          rw [sb_LS hq hp he e2 hg]
          simp [pair, e2]
        | false =>
          have hq1 := S_next hq e2
          cases e : sb xs q p with
          | true =>
            rw [sb_same hq hp he] at e
            rw [sb_asymm e]; simp
          | false =>
            have e3 := sb_total (by omega) (by omega) hne e
            rw [sb_same hp hq he.symm] at e3
            have h4 := sb_sy hp1 hq1 e3
            rw [e3]
            simp [pair, he, e2]
            omega
      · simp [pair, he, hc]
  omega

/-- No L and no turn: only what is no turn stands behind it among those with the same two symbols. -/
theorem ps_rest {p : Nat} (hp : p < xs.length) (hg : gt xs p = false) (ht : isTurn xs p = false) : ps L p + 1 + cnt xs.length (fun q => pair xs p q && !isTurn xs q && decide (ps L (p + 1) < ps L (q + 1))) = be2 xs (sy xs p) (sy xs (p + 1)) := by
  have hp1 := S_next hp hg
  rw [← ps_pair hO hp hg]
  congr 1
  refine cnt_congr (fun q hq => ?_)
  cases e : pair xs p q with
  | false => simp
  | true =>
    unfold pair at e
    simp at e
    have hq1 := S_next hq e.1.2
    have h2 : sb xs (p + 1) (q + 1) = decide (ps L (p + 1) < ps L (q + 1)) := by
      rw [Bool.eq_iff_iff]
      unfold sb
      rw [ps_lt_iff hO hp1 hq1]
      simp
    cases e3 : isTurn xs q with
    | false => rw [h2]; simp
    | true =>
      have h3 := (turn_iff.1 e3).2.1
      have h4 := (notTurn_iff hp hg).1 ht
      rw [sb_asymm (sb_LS hq1 hp1 e.2 h3 h4)]
      simp

/-- A turn: the turns behind it with the same two symbols, and all of these that are no turn, stand behind it. -/
theorem ps_turn {p : Nat} (hp : p < xs.length) (ht : isTurn xs p = true) : ps L p + 1 + cnt xs.length (fun q => pair xs p q && isTurn xs q && sb xs p q) + cnt xs.length (fun q => pair xs p q && !isTurn xs q) = be2 xs (sy xs p) (sy xs (p + 1)) := by
  obtain ⟨hg, hg1, hp1⟩ := turn_iff.1 ht
  rw [← ps_pair hO hp hg, cnt_split (fun q => pair xs p q && sb xs (p + 1) (q + 1)) (fun q => isTurn xs q)]
  have h1 : cnt xs.length (fun q => (pair xs p q && sb xs (p + 1) (q + 1)) && isTurn xs q) = cnt xs.length (fun q => pair xs p q && isTurn xs q && sb xs p q) := by
    refine cnt_congr (fun q hq => ?_)
    cases e : pair xs p q with
    | false => simp
    | true =>
      unfold pair at e
      simp at e
      rw [sb_same hp hq e.1.1.symm]
      cases isTurn xs q <;> simp
  have h2 : cnt xs.length (fun q => (pair xs p q && sb xs (p + 1) (q + 1)) && !isTurn xs q) = cnt xs.length (fun q => pair xs p q && !isTurn xs q) := by
    refine cnt_congr (fun q hq => ?_)
    cases e : pair xs p q with
    | false => simp
    | true =>
      unfold pair at e
      simp at e
      cases e3 : isTurn xs q with
      | true => simp
      | false =>
        have h3 := (notTurn_iff hq e.1.2).1 e3
        rw [sb_LS hp1 (S_next hq e.1.2) e.2.symm hg1 h3]
        simp
  omega
end

end Go.Proofs.Ytdhehffdddbmbaa
