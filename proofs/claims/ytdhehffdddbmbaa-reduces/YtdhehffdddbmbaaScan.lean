/-
  Scan: the walks of Scan, of the program and of the document's answer.
-/
import Derived.Test.YtdhehffdddbmbaaBase
namespace Go.Proofs.Ytdhehffdddbmbaa
open Go.RowKit

/-- The place of the first number outside 0 to k-1; the length, if there is none. -/
def firstOut (xs : List Int) (k : Int) : Nat := xs.findIdx (fun x => decide (x < 0) || decide (k ≤ x))

theorem firstOut_le (xs : List Int) (k : Int) : firstOut xs k ≤ xs.length := List.findIdx_le_length

theorem firstOut_here (xs : List Int) (k : Int) (i : Nat) (hi : i < xs.length) (hb : i ≤ firstOut xs k) (h : xs[i] < 0 ∨ k ≤ xs[i]) : firstOut xs k = i := by
  unfold firstOut at *
  refine Nat.le_antisymm ?_ hb
  rcases Nat.lt_or_ge i (List.findIdx (fun x => decide (x < 0) || decide (k ≤ x)) xs) with h1 | h1
  · have := List.not_of_lt_findIdx h1
    simp at this
    omega
  · exact h1

theorem firstOut_on (xs : List Int) (k : Int) (i : Nat) (hi : i < xs.length) (hb : i ≤ firstOut xs k) (h : ¬ (xs[i] < 0 ∨ k ≤ xs[i])) : i + 1 ≤ firstOut xs k := by
  unfold firstOut at *
  rcases Nat.lt_or_ge i (List.findIdx (fun x => decide (x < 0) || decide (k ≤ x)) xs) with h1 | h1
  · exact h1
  · have he : List.findIdx (fun x => decide (x < 0) || decide (k ≤ x)) xs = i := by omega
    have hw : List.findIdx (fun x => decide (x < 0) || decide (k ≤ x)) xs < xs.length := by rw [he]; exact hi
    have := List.findIdx_getElem (w := hw)
    simp [he] at this
    omega

set_option maxHeartbeats 400000 in
theorem firstOutside_any (a : Option Addr) (cap : Nat) (xs : List Int) (k : Int) (w : World) (hr : Rd w a xs) (hl : xs.length ≤ maxLen) :
    Calls Try.prog 67 #[.slice a xs.length cap, .int .i64 k] w fun e w' => e = .returned (.int .i64 (firstOut xs k)) ∧ w' = w := by
  unfold maxLen at hl
  go_enter Try.func67, Try.ntmps67
  go_wp2
  go_loop [5] (fun i => ∃ n : Nat, n ≤ xs.length ∧ n ≤ firstOut xs k ∧ i = .int .i64 n) (fun i => xs.length - (intOf i).toNat)
  case atStart => exact ⟨0, Nat.zero_le _, Nat.zero_le _, rfl⟩
  case round =>
    obtain ⟨n, hn, hf, rfl⟩ := hrel
    by_cases hlt : n < xs.length
    · obtain ⟨b, off, rfl, hb, hc⟩ := hr.at hlt
      have hc1 := hc n hlt
      clear hc hr
      by_cases h0 : xs[n] < 0
      · have he := firstOut_here xs k n hlt hf (.inl h0)
        have HE : Hid (firstOut xs k = n) := he
        clear he hf
        go_wp2
        go_ret
        exact ⟨ret_int (by rw [HE.out]), rfl⟩
      · by_cases h1 : k ≤ xs[n]
        · have he := firstOut_here xs k n hlt hf (.inr h1)
          have HE : Hid (firstOut xs k = n) := he
          clear he hf
          go_wp2
          go_ret
          exact ⟨ret_int (by rw [HE.out]), rfl⟩
        · have he := firstOut_on xs k n hlt hf (by omega)
          go_wp2
          go_round
          case rel => exact ⟨n + 1, by omega, he, by go_num⟩
          case measure => simp [intOf]; omega
    · have he : firstOut xs k = xs.length := by have := firstOut_le xs k; omega
      have HE : Hid (firstOut xs k = xs.length) := he
      clear he
      go_wp2
      go_ret
      exact ⟨ret_int (by rw [HE.out]), rfl⟩

/-- The error of Scan, and the place. -/
def scanE (xs : List Int) (k : Int) : Int := if k < 1 then 1 else if 96 < xs.length then 2 else if firstOut xs k < xs.length then 3 else 0
def scanP (xs : List Int) (k : Int) : Int := if scanE xs k = 3 then firstOut xs k else 0

theorem scan_alpha {xs : List Int} {k : Int} (h : k < 1) : scanE xs k = 1 ∧ scanP xs k = 0 := by simp [scanP, scanE, h]
theorem scan_long {xs : List Int} {k : Int} (h : ¬ k < 1) (h2 : 96 < xs.length) : scanE xs k = 2 ∧ scanP xs k = 0 := by simp [scanP, scanE, h, h2]
theorem scan_sym {xs : List Int} {k : Int} (h : ¬ k < 1) (h2 : ¬ 96 < xs.length) (h3 : firstOut xs k < xs.length) : scanE xs k = 3 ∧ scanP xs k = firstOut xs k := by simp [scanP, scanE, h, h2, h3]
theorem scan_ok {xs : List Int} {k : Int} (h : ¬ k < 1) (h2 : ¬ 96 < xs.length) (h3 : ¬ firstOut xs k < xs.length) : scanE xs k = 0 ∧ scanP xs k = 0 := by simp [scanP, scanE, h, h2, h3]

set_option maxHeartbeats 400000 in
theorem fault_any (a : Option Addr) (cap : Nat) (xs : List Int) (k : Int) (w : World) (hr : Rd w a xs) (hl : xs.length ≤ maxLen) :
    Calls Try.prog 44 #[.slice a xs.length cap, .int .i64 k] w fun e w' => e = .returned (.int .i64 (scanE xs k)) ∧ w' = w := by
  have hf := firstOut_le xs k
  have hl' := hl
  unfold maxLen at hl
  by_cases h1 : k < 1
  · have HE := Hid.mk' (scan_alpha (xs := xs) h1).1
    go_enter Try.func44, Try.ntmps44
    go_wp2
    go_ret
    exact ⟨ret_int (by rw [HE.out]), rfl⟩
  · by_cases h2 : 96 < xs.length
    · have HE := Hid.mk' (scan_long h1 h2).1
      go_enter Try.func44, Try.ntmps44
      go_wp2
      go_ret
      exact ⟨ret_int (by rw [HE.out]), rfl⟩
    · by_cases h3 : firstOut xs k < xs.length
      · have HE := Hid.mk' (scan_sym h1 h2 h3).1
        go_enter Try.func44, Try.ntmps44
        go_wp2_with (go_at_call 67; refine (firstOutside_any a cap xs k _ hr hl').mono ?_; rintro e w' ⟨rfl, rfl⟩)
        go_ret
        exact ⟨ret_int (by rw [HE.out]), rfl⟩
      · have HE := Hid.mk' (scan_ok h1 h2 h3).1
        go_enter Try.func44, Try.ntmps44
        go_wp2_with (go_at_call 67; refine (firstOutside_any a cap xs k _ hr hl').mono ?_; rintro e w' ⟨rfl, rfl⟩)
        go_ret
        exact ⟨ret_int (by rw [HE.out]), rfl⟩

set_option maxHeartbeats 400000 in
theorem textsScan_any (a : Option Addr) (cap : Nat) (xs : List Int) (k : Int) (w : World) (hr : Rd w a xs) (hl : xs.length ≤ maxLen) :
    Calls Try.prog 43 #[.slice a xs.length cap, .int .i64 k] w fun e w' => e = .returned (.tuple #[.int .i64 (scanE xs k), .int .i64 (scanP xs k)]) ∧ w' = w := by
  by_cases h3 : scanE xs k = 3
  · have HP := Hid.mk' (show scanP xs k = firstOut xs k by simp [scanP, h3])
    have hb : (scanE xs k != 3) = false := by simp [h3]
    have HE := Hid.mk' h3
    clear h3
    go_enter Try.func43, Try.ntmps43
    go_wp2_with (first | (go_at_call 44; refine (fault_any a cap xs k _ hr hl).mono ?_; rintro e w' ⟨rfl, rfl⟩) | (go_at_call 67; refine (firstOutside_any a cap xs k _ hr hl).mono ?_; rintro e w' ⟨rfl, rfl⟩))
    go_ret2
    exact ⟨ret_ints rfl HP.out.symm, rfl⟩
  · have HP := Hid.mk' (show scanP xs k = 0 by simp [scanP, h3])
    have hb : (scanE xs k != 3) = true := by simp [h3]
    clear h3
    go_enter Try.func43, Try.ntmps43
    go_wp2_with (first | (go_at_call 44; refine (fault_any a cap xs k _ hr hl).mono ?_; rintro e w' ⟨rfl, rfl⟩) | (go_at_call 67; refine (firstOutside_any a cap xs k _ hr hl).mono ?_; rintro e w' ⟨rfl, rfl⟩))
    go_ret2
    exact ⟨ret_ints rfl HP.out.symm, rfl⟩

set_option maxHeartbeats 400000 in
theorem scan_any (a : Option Addr) (cap : Nat) (xs : List Int) (k : Int) (w : World) (hr : Rd w a xs) (hl : xs.length ≤ maxLen) :
    Calls Try.prog 16 #[.slice a xs.length cap, .int .i64 k] w fun e w' => e = .returned (.tuple #[.int .i64 (scanE xs k), .int .i64 (scanP xs k)]) ∧ w' = w := by
  go_enter Try.func16, Try.ntmps16
  go_wp2_with (go_at_call 43; refine (textsScan_any a cap xs k _ hr hl).mono ?_; rintro e w' ⟨rfl, rfl⟩)
  go_ret2
  exact ⟨rfl, rfl⟩

set_option maxHeartbeats 400000 in
theorem refScan_any (a : Option Addr) (cap : Nat) (xs : List Int) (k : Int) (w : World) (hr : Rd w a xs) (hl : xs.length ≤ maxLen) :
    Calls Try.prog 17 #[.slice a xs.length cap, .int .i64 k] w fun e w' => e = .returned (.tuple #[.int .i64 (scanE xs k), .int .i64 (scanP xs k)]) ∧ w' = w := by
  unfold maxLen at hl
  by_cases h1 : k < 1
  · have HE := Hid.mk' (scan_alpha (xs := xs) h1)
    go_enter Try.func17, Try.ntmps17
    go_wp2
    go_ret2
    exact ⟨ret_ints HE.out.1.symm HE.out.2.symm, rfl⟩
  · by_cases h2 : 96 < xs.length
    · have HE := Hid.mk' (scan_long h1 h2)
      go_enter Try.func17, Try.ntmps17
      go_wp2
      go_ret2
      exact ⟨ret_ints HE.out.1.symm HE.out.2.symm, rfl⟩
    · go_enter Try.func17, Try.ntmps17
      go_wp2
      go_loop [6] (fun i => ∃ n : Nat, n ≤ xs.length ∧ n ≤ firstOut xs k ∧ i = .int .i64 n) (fun i => xs.length - (intOf i).toNat)
      case atStart => exact ⟨0, Nat.zero_le _, Nat.zero_le _, rfl⟩
      case round =>
        obtain ⟨n, hn, hf, rfl⟩ := hrel
        by_cases hlt : n < xs.length
        · obtain ⟨b, off, rfl, hb, hc⟩ := hr.at hlt
          have hc1 := hc n hlt
          clear hc hr
          by_cases h0 : xs[n] < 0
          · have he := firstOut_here xs k n hlt hf (.inl h0)
            have HE := Hid.mk' (scan_sym (xs := xs) (k := k) (by omega) (by omega) (by omega))
            have HF := Hid.mk' he
            clear he hf
            go_wp2
            go_ret2
            exact ⟨ret_ints HE.out.1.symm (by rw [HE.out.2, HF.out]), rfl⟩
          · by_cases h9 : k ≤ xs[n]
            · have he := firstOut_here xs k n hlt hf (.inr h9)
              have HE := Hid.mk' (scan_sym (xs := xs) (k := k) (by omega) (by omega) (by omega))
              have HF := Hid.mk' he
              clear he hf
              go_wp2
              go_ret2
              exact ⟨ret_ints HE.out.1.symm (by rw [HE.out.2, HF.out]), rfl⟩
            · have he := firstOut_on xs k n hlt hf (by omega)
              go_wp2
              go_round
              case rel => exact ⟨n + 1, by omega, he, by go_num⟩
              case measure => simp [intOf]; omega
        · have HE := Hid.mk' (scan_ok (xs := xs) (k := k) (by omega) (by omega) (by omega))
          clear hf
          go_wp2
          go_ret2
          exact ⟨ret_ints HE.out.1.symm HE.out.2.symm, rfl⟩

end Go.Proofs.Ytdhehffdddbmbaa
