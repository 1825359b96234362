/-
  Keep: pick and some: a text out of raw numbers.
-/
import Derived.Test.YtdhehffdddbmbabLaw
import Derived.Test.YtdhehffdddbmbabRefOrder
namespace Go.Proofs.Ytdhehffdddbmbab
open Go.RowKit

/-- Which of n things the raw number c speaks of. -/
def pk (c : Int) (n : Nat) : Nat := (if c < 0 then -(c + 1) else c).toNat % n
theorem pk_lt (c : Int) {n : Nat} (h : 0 < n) : pk c n < n := Nat.mod_lt _ h

set_option maxHeartbeats 400000 in
theorem pick_any (c : Int) (n : Nat) (w : World) (hc : -9223372036854775808 ≤ c ∧ c ≤ 9223372036854775807) (hn : 0 < n) (hn' : n ≤ 2000000000) :
    Calls Try.prog 12 #[.int .i64 c, .int .i64 n] w fun e w' => e = .returned (.int .i64 (pk c n)) ∧ w' = w := by
  by_cases h0 : c < 0
  · have HP : Hid ((pk c n : Int) = (-(c + 1)) % (n : Int)) := by
      unfold pk Hid; rw [if_pos h0, Int.natCast_emod, Int.toNat_of_nonneg (by omega)]
    obtain ⟨h1, h2⟩ := hc
    go_enter Try.func12, Try.ntmps12
    go_wp2
    go_ret
    exact ⟨ret_int (by rw [HP.out, ← Int.tmod_eq_emod_of_nonneg (by omega), Int.neg_tmod]), rfl⟩
  · have HP : Hid ((pk c n : Int) = c % (n : Int)) := by
      unfold pk Hid; rw [if_neg h0, Int.natCast_emod, Int.toNat_of_nonneg (by omega)]
    obtain ⟨h1, h2⟩ := hc
    go_enter Try.func12, Try.ntmps12
    go_wp2
    go_ret
    exact ⟨ret_int (by rw [HP.out]), rfl⟩

/-- The text out of raw numbers: the first 96, each brought into the alphabet. -/
def someTo (xs : List Int) (n : Nat) : List Int := (xs.take n).map (fun x => (pk x 60 : Int))
def someOf (xs : List Int) : List Int := someTo xs 96
theorem someTo_succ {xs : List Int} {n : Nat} (h : n < xs.length) : someTo xs (n + 1) = someTo xs n ++ [(pk xs[n] 60 : Int)] := by
  unfold someTo; rw [take_snoc h, List.map_append]; rfl
theorem someTo_length (xs : List Int) (n : Nat) (h : n ≤ xs.length) : (someTo xs n).length = n := by simp [someTo]; omega
theorem someOf_scan (xs : List Int) : scanE (someOf xs) 60 = 0 := by
  have hin : ¬ firstOut (someOf xs) 60 < (someOf xs).length := by
    intro h
    obtain ⟨x, hx, hno⟩ := firstOut_out h
    unfold someOf someTo at hx
    obtain ⟨y, _, rfl⟩ := List.mem_map.1 hx
    have := pk_lt y (n := 60) (by omega)
    omega
  have hlen : ¬ 96 < (someOf xs).length := by simp [someOf, someTo]; omega
  exact (scan_ok (by omega) hlen hin).1
theorem someOf_le (xs : List Int) : (someOf xs).length ≤ 96 := by simp [someOf, someTo]; omega

set_option maxHeartbeats 800000 in
set_option maxRecDepth 100000 in
theorem some_any (a : Option Addr) (cap : Nat) (xs : List Int) (w : World) (hr : Rd w a xs) (hl : xs.length ≤ maxLen) (hx : ∀ n ∈ xs, -9223372036854775808 ≤ n ∧ n ≤ 9223372036854775807) :
    Calls Try.prog 8 #[.slice a xs.length cap] w fun e w' => ∃ r, e = .returned r ∧ w'.ownsRow w.heap.size 3 1 r (someOf xs).length ((someOf xs).map (Value.int .i64)) ∧ Below w.heap.size w w' := by
  obtain ⟨i0, hi, hz0, hz1, hz2⟩ := info_parts Try.info3
  unfold maxLen at hl
  have HX := Hid.mk' hx
  clear hx
  go_enter Try.func8, Try.ntmps8
  go_wp2
  go_loopw [3, 4] (fun out i wr => ∃ n : Nat, n ≤ xs.length ∧ n ≤ 96 ∧ i = .int .i64 n ∧ wr.ownsRow w.heap.size 3 1 out n ((someTo xs n).map (Value.int .i64)) ∧ Below w.heap.size w wr) (fun _ i _ => xs.length - (intOf i).toNat)
  case atStart => exact ⟨0, Nat.zero_le _, Nat.zero_le _, rfl, World.ownsRow_nil _ _ _ _, Below.refl _ _⟩
  case round =>
    obtain ⟨n, hn, hn96, rfl, hown, hbr⟩ := hrel
    have hsz := hbr.size
    by_cases hlt : n < xs.length
    · by_cases h96 : n < 96
      · have hrx := hr.below hbr
        obtain ⟨b, off, rfl, hb, hc⟩ := hrx.at hlt
        have hc1 := hc n hlt
        have HB := Hid.mk' (HX.out xs[n] (List.getElem_mem hlt))
        have HS := Hid.mk' (someTo_succ hlt)
        clear hc hrx
        go_wp2_with fail
        refine (pick_any _ 60 _ HB.out (by omega) (by omega)).mono ?_
        rintro e w1 ⟨rfl, rfl⟩
        go_wp2_with (at_builtin; refine wpList_append_own _ rfl _ _ 22 rfl w.heap.size 3 i0 (.int .i64 0) 1 8 Try.underlying22 hi hz0 hz1 hz2 rfl (by decide) _ _ _ rfl (hown.alloc _) ⟨w1.heap.size, 0, none⟩ 1 1 [.int .i64 (pk xs[n] 60 : Int)] rfl rfl (by intro t u ht; match t, ht with | 0, ht => simp at ht; subst ht; simp [Addr.add]) (by intro u hu; simp at hu; subst hu; rfl) (by unfold maxLen; omega) (by omega) (by simp; omega) ?_; intro v' w3 hown' hgrow _)
        have R := Hid.mk' (And.intro hown' (owns_grow hown hbr _ hgrow))
        clear hown' hgrow hown hbr
        go_wp2
        go_roundw
        case rel => exact ⟨n + 1, by omega, by omega, by go_num, by rw [HS.out, List.map_append]; exact R.out.1, R.out.2⟩
        case measure => simp [intOf]; omega
      · obtain rfl : n = 96 := by omega
        have HL := Hid.mk' (someTo_length xs 96 hn)
        have R := Hid.mk' (And.intro hown hbr)
        clear hown hbr
        go_wp2
        go_ret
        exact ⟨_, rfl, by unfold someOf; rw [HL.out]; exact R.out.1, R.out.2⟩
    · have he : someTo xs n = someOf xs := by
        unfold someOf someTo
        rw [List.take_of_length_le (show xs.length ≤ n by omega), List.take_of_length_le (show xs.length ≤ 96 by omega)]
      have hln := someTo_length xs n hn
      rw [he] at hown hln
      have HL := Hid.mk' hln
      have R := Hid.mk' (And.intro hown hbr)
      clear hown hbr he hln
      go_wp2
      go_ret
      exact ⟨_, rfl, by rw [HL.out]; exact R.out.1, R.out.2⟩

end Go.Proofs.Ytdhehffdddbmbab
