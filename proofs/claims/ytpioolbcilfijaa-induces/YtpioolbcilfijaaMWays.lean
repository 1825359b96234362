/-
  MWays: plain mathematics of the ways by marks and by turns (P13, P15): how often names are taken as a text; where a place is drawn in. Nothing of the program.
-/
import Derived.Test.YtpioolbcilfijaaMBuck
import Derived.Test.YtpioolbcilfijaaMLifted
import Derived.Test.YtpioolbcilfijaaRefNames2
namespace Go.Proofs.Ytpioolbcilfijaa

/-! ### How often names are taken as a text -/

theorem lev_fuel : ∀ (k k' : Nat) (ts : List Int), ts.length ≤ k → ts.length ≤ k' → lev diff k ts = lev diff k' ts
  | 0, 0, _, _, _ => rfl
  | 0, k' + 1, ts, h, _ => by rw [lev, lev, if_pos (by omega)]
  | k + 1, 0, ts, _, h => by rw [lev, lev, if_pos (by omega)]
  | k + 1, k' + 1, ts, h, h' => by
    rw [lev, lev]
    by_cases h0 : ts.length = 0
    · rw [if_pos h0, if_pos h0]
    · have hs := names_short (xs := ts) (by omega)
      rw [if_neg h0, if_neg h0, lev_fuel k k' (names ts) (by omega) (by omega)]
theorem levels_none {xs : List Int} (h : diff (names xs) = true) : levels xs = 0 := by
  unfold levels
  cases e : xs.length with
  | zero => rfl
  | succ k => rw [lev]; split <;> simp_all
theorem levels_more {xs : List Int} (h : diff (names xs) = false) : levels xs = levels (names xs) + 1 := by
  have h0 : 0 < xs.length := by
    rcases Nat.eq_zero_or_pos xs.length with h0 | h0
    · have : names xs = [] := List.eq_nil_of_length_eq_zero (by rw [names_length]; have := marks_length_le xs; omega)
      rw [this] at h
      simp [diff] at h
    · exact h0
  have hs := names_short h0
  unfold levels
  obtain ⟨k, hk⟩ : ∃ k, xs.length = k + 1 := ⟨xs.length - 1, by omega⟩
  rw [hk, lev, if_neg (by omega), if_neg (by rw [h]; simp), lev_fuel k (names xs).length (names xs) (by omega) (Nat.le_refl _)]

/-! ### Names that are all different -/

theorem names_getD {xs : List Int} {i : Nat} (h : i < (marks xs).length) : (names xs).getD i 0 = nm xs i := by rw [List.getD, names_at h]; rfl

theorem names_ps {xs N : List Int} (hd : diff (names xs) = true) (hN : Ord (names xs) N) {i : Nat} (hi : i < (marks xs).length) : ps N i = nm xs i := by
  have hnl := names_length xs
  have hdd : ∀ a b, a < (marks xs).length → b < (marks xs).length → a ≠ b → nm xs a ≠ nm xs b := by
    intro a b ha hb hne he
    have hp := List.pairwise_iff_getElem.1 (of_decide_eq_true hd : (names xs).Nodup)
    have ea := names_getD ha
    have eb := names_getD hb
    rw [List.getD, List.getElem?_eq_getElem (by omega), Option.getD_some] at ea eb
    rcases Nat.lt_or_ge a b with h1 | h1
    · exact hp a b (by omega) (by omega) h1 (by rw [ea, eb, he])
    · exact hp b a (by omega) (by omega) (by omega) (by rw [ea, eb, he])
  rw [ps_cnt hN (by omega), hnl]
  unfold nm nameCnt cnt
  refine List.countP_congr (fun q hq => ?_)
  have hq := List.mem_range.1 hq
  have hh : hadTo xs q q = false := by
    rw [hadTo_false]
    intro k hk he
    exact hdd k q (by omega) hq (by omega) ((nm_eq_iff (by omega) hq).2 he)
  rw [hh]
  have hsb : sb (names xs) q i = lt (pc xs q) (pc xs i) := by
    unfold sb
    rw [names_order _ q i rfl hq hi]
    rcases Classical.em (q = i) with rfl | hne
    · rw [lt_irrefl, lt_irrefl]
    · rw [pc_lt hq hi (fun he => hdd q i hq hi hne ((nm_eq_iff hq hi).2 he))]
  rw [hsb]
  simp
/-- Where the names are all different they tell where the marks stand. -/
theorem names_lifted {xs N : List Int} (hd : diff (names xs) = true) (hN : Ord (names xs) N) {i : Nat} (hi : i < (marks xs).length) : (N.map (mkOf xs))[((names xs).getD i 0).toNat]? = some ((marks xs).getD i 0) := by
  rw [names_getD hi, Int.toNat_natCast, ← names_ps hd hN hi, List.getElem?_map]
  have hn : i < (names xs).length := by rw [names_length]; exact hi
  have h1 := ps_lt hN hn
  have h2 := ps_at hN hn
  rw [← OrdTo.length hN] at h1
  rw [List.getD, List.getElem?_eq_getElem h1, Option.getD_some] at h2
  rw [List.getElem?_eq_getElem h1, Option.map_some, h2]
  unfold mkOf
  rw [Int.toNat_natCast]

/-! ### Where a place is drawn in -/

/-- An L or a mark. -/
def lm (xs : List Int) (p : Nat) : Prop := gt xs p = true ∨ isMark xs p = true
theorem lm_next {xs : List Int} {p : Nat} (h : gt xs p = true) : lm xs (p + 1) := by
  cases e : gt xs (p + 1) with
  | true => exact .inl e
  | false => exact .inr ((mark_iff xs (p + 1)).2 ⟨by omega, e, by rw [Nat.add_sub_cancel]; exact h⟩)

section
variable {xs L : List Int} (hO : Ord xs L)
include hO

/-- The last place stands first among those of its symbol. -/
theorem ps_last {p : Nat} (hp : p + 1 = xs.length) : ps L p = bs xs (sy xs p) := by
  rw [ps_bucket hO (by omega), cnt_none, Nat.add_zero]
  intro q hq
  by_cases h : sy xs q = sy xs p
  · rw [sb_same hq (by omega) h]
    unfold sb
    rw [List.drop_eq_nil_of_le (show xs.length ≤ p + 1 by omega), lt_to_nil]
    simp
  · simp [h]

/-- An L: behind those L of its symbol whose next place stands ahead of its own next place. -/
theorem ps_drawL {p : Nat} (hp : p + 1 < xs.length) (hg : gt xs p = true) (loc : Nat → Nat) (hloc : ∀ a b, a < xs.length → b < xs.length → lm xs a → lm xs b → (sb xs a b = true ↔ loc a < loc b)) :
    ps L p = bs xs (sy xs p) + cnt xs.length (fun q => decide (sy xs q = sy xs p) && gt xs q && (decide (q + 1 = xs.length) || decide (loc (q + 1) < loc (p + 1)))) := by
  rw [ps_L hO (by omega) hg]
  congr 1
  refine cnt_congr (fun q hq => ?_)
  by_cases h : sy xs q = sy xs p
  · cases e : gt xs q with
    | false => simp
    | true =>
      rw [sb_same hq (by omega) h]
      by_cases hl : q + 1 = xs.length
      · have : sb xs (q + 1) (p + 1) = true := by
          unfold sb
          rw [List.drop_eq_nil_of_le (show xs.length ≤ q + 1 by omega), lt_nil]
          simp; omega
        rw [this]; simp [hl]
      · have hi := hloc (q + 1) (p + 1) (by omega) hp (lm_next e) (lm_next hg)
        have : sb xs (q + 1) (p + 1) = decide (loc (q + 1) < loc (p + 1)) := by rw [Bool.eq_iff_iff, hi]; simp
        simp [this, hl, h]
  · simp [h]

/-- What is no L: ahead of those of its symbol that are no L whose next place stands behind its own next place. -/
theorem ps_drawS {p : Nat} (hp : p < xs.length) (hg : gt xs p = false) :
    ps L p + 1 + cnt xs.length (fun q => decide (sy xs q = sy xs p) && !gt xs q && decide (ps L (p + 1) < ps L (q + 1))) = be xs (sy xs p) := by
  have hnl : ∀ q, q < xs.length → gt xs q = false → q + 1 < xs.length := by
    intro q hq h
    rcases Nat.lt_or_ge (q + 1) xs.length with h1 | h1
    · exact h1
    · rw [gt_last (by omega)] at h; cases h
  rw [← ps_S hO hp hg]
  congr 1
  refine cnt_congr (fun q hq => ?_)
  by_cases h : sy xs q = sy xs p
  · cases e : gt xs q with
    | true => simp
    | false =>
      rw [sb_same hp hq h.symm]
      have : sb xs (p + 1) (q + 1) = decide (ps L (p + 1) < ps L (q + 1)) := by
        rw [Bool.eq_iff_iff]
        unfold sb
        rw [ps_lt_iff hO (hnl p hp hg) (hnl q hq e)]
        simp
      rw [this]
  · simp [h]
end

end Go.Proofs.Ytpioolbcilfijaa
