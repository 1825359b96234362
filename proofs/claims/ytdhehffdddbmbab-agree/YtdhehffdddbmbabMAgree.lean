/-
  MAgree: plain mathematics: symbols that are as far apart as one likes change neither the order nor what is shared (P8, P9).
-/
import Derived.Test.YtdhehffdddbmbabMBase
namespace Go.Proofs.Ytdhehffdddbmbab

section
variable {S : Int → Prop} {f : Int → Int} (hf : ∀ x y, S x → S y → x < y → f x < f y)
include hf

theorem map_ne {x y : Int} (hx : S x) (hy : S y) (h : ¬ x = y) : ¬ f x = f y := by
  intro e
  rcases Int.lt_or_gt_of_ne h with h1 | h1
  · have := hf x y hx hy h1; omega
  · have := hf y x hy hx h1; omega
theorem map_lt {x y : Int} (hx : S x) (hy : S y) (h : ¬ x = y) : decide (f x < f y) = decide (x < y) := by
  rcases Int.lt_or_gt_of_ne h with h1 | h1
  · have := hf x y hx hy h1
    rw [decide_eq_true h1, decide_eq_true this]
  · have := hf y x hy hx h1
    rw [decide_eq_false (by omega), decide_eq_false (by omega)]

theorem lt_map_on : ∀ a b : List Int, (∀ x ∈ a, S x) → (∀ x ∈ b, S x) → lt (a.map f) (b.map f) = lt a b
  | [], [], _, _ => rfl
  | [], _ :: _, _, _ => by simp [lt]
  | _ :: _, [], _, _ => by simp [lt]
  | x :: r, y :: s, ha, hb => by
    have ih := lt_map_on r s (fun z hz => ha z (List.mem_cons_of_mem _ hz)) (fun z hz => hb z (List.mem_cons_of_mem _ hz))
    have hx := ha x (List.mem_cons_self ..)
    have hy := hb y (List.mem_cons_self ..)
    rw [List.map_cons, List.map_cons, lt_cons, lt_cons]
    by_cases e : x = y
    · subst e; rw [if_pos rfl, if_pos rfl, ih]
    · rw [if_neg e, if_neg (map_ne hf hx hy e), map_lt hf hx hy e]
theorem com_map : ∀ a b : List Int, (∀ x ∈ a, S x) → (∀ x ∈ b, S x) → com (a.map f) (b.map f) = com a b
  | [], b, _, _ => by rw [List.map_nil, com_nil, com_nil]
  | _ :: _, [], _, _ => by rw [List.map_nil, com_to_nil, com_to_nil]
  | x :: r, y :: s, ha, hb => by
    have ih := com_map r s (fun z hz => ha z (List.mem_cons_of_mem _ hz)) (fun z hz => hb z (List.mem_cons_of_mem _ hz))
    have hx := ha x (List.mem_cons_self ..)
    have hy := hb y (List.mem_cons_self ..)
    rw [List.map_cons, List.map_cons, com_cons, com_cons]
    by_cases e : x = y
    · subst e; rw [if_pos rfl, if_pos rfl, ih]
    · rw [if_neg e, if_neg (map_ne hf hx hy e)]

variable {t : List Int} (ht : ∀ x ∈ t, S x)
include ht
theorem cm_map (i j : Nat) : cm (t.map f) i j = cm t i j := by
  unfold cm
  rw [← List.map_drop, ← List.map_drop]
  exact com_map hf _ _ (fun x hx => ht x (List.mem_of_mem_drop hx)) (fun x hx => ht x (List.mem_of_mem_drop hx))
theorem ord_map {L : List Int} (h : Ord t L) : Ord (t.map f) L := by
  refine ⟨h.1.imp (fun {p q} hs => ?_), fun p => by rw [List.length_map]; exact h.2 p⟩
  unfold sl at hs ⊢
  rw [← List.map_drop, ← List.map_drop, lt_map_on hf _ _ (fun x hx => ht x (List.mem_of_mem_drop hx)) (fun x hx => ht x (List.mem_of_mem_drop hx))]
  exact hs
theorem shared_map (L : List Int) : shared (t.map f) L = shared t L := by
  unfold shared
  refine List.map_congr_left (fun i _ => ?_)
  unfold sharedAt
  split
  · rfl
  · rw [cm_map hf ht]
end

/-- 'gap' times as far, and more from the symbol 'at' on. -/
def far (g : Nat) (at' : Nat) (x : Int) : Int := x * (1 + (g : Int)) + if (at' : Int) ≤ x then 2305843009213693952 else 0
theorem far_mono (g at' : Nat) (x y : Int) (h : x < y) : far g at' x < far g at' y := by
  unfold far
  have h1 : x * (1 + (g : Int)) < y * (1 + (g : Int)) := Int.mul_lt_mul_of_pos_right h (by omega)
  split <;> split <;> omega
theorem far_range {g at' : Nat} (hg : g < 1000) {x : Int} (h0 : 0 ≤ x) (h1 : x < 60) : 0 ≤ far g at' x ∧ far g at' x < 9223372036854775807 := by
  unfold far
  have h2 : 0 ≤ x * (1 + (g : Int)) := Int.mul_nonneg h0 (by omega)
  have h3 : x * (1 + (g : Int)) ≤ 60 * 1000 := Int.mul_le_mul (by omega) (by omega) (by omega) (by omega)
  split <;> omega

end Go.Proofs.Ytdhehffdddbmbab
