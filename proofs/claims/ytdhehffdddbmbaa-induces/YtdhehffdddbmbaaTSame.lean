/-
  TSame: the walk of the program's own Same.
-/
import Derived.Test.YtdhehffdddbmbaaLent
namespace Go.Proofs.Ytdhehffdddbmbaa
open Go.RowKit

set_option maxHeartbeats 400000 in
theorem textsSame_any (a a' : Option Addr) (cap cap' : Nat) (xs ys : List Int) (w : World) (hr : Rd w a xs) (hr' : Rd w a' ys) (hl : xs.length ≤ maxLen) (hl' : ys.length ≤ maxLen) :
    Calls Try.prog 85 #[.slice a xs.length cap, .slice a' ys.length cap'] w fun e w' => e = .returned (.bool (xs == ys)) ∧ ∃ q, w' = w.drewN q := by
  unfold maxLen at hl hl'
  by_cases hlen : xs.length = ys.length
  · go_enter Try.func85, Try.ntmps85
    go_wp2
    go_loopw [5] (fun i wr => ∃ n q : Nat, n ≤ ys.length ∧ xs.take n = ys.take n ∧ i = .int .i64 n ∧ wr = w.drewN q) (fun i _ => ys.length - (intOf i).toNat)
    case atStart => exact ⟨0, 0, Nat.zero_le _, rfl, rfl, rfl⟩
    case round =>
      obtain ⟨n, q, hn, ht, rfl, rfl⟩ := hrel
      have HT := Hid.mk' ht
      have HL := Hid.mk' hlen
      clear ht
      by_cases hlt : n < ys.length
      · obtain ⟨b, off, rfl, hb, hc⟩ := hr.at (i := n) (by omega)
        obtain ⟨b', off', rfl, hb', hc'⟩ := hr'.at hlt
        have hx : n < xs.length := by omega
        have hc1 := hc n hx
        have hc2 := hc' n hlt
        clear hc hr hc' hr'
        by_cases he : xs[n] = ys[n]
        · have HS := Hid.mk' (same_step n HL.out hx HT.out he)
          have hbe : (xs[n] != ys[n]) = false := by simp [he]
          clear he
          go_wp2
          go_quiet (fail)
          go_wp2
          go_roundw
          case rel => exact ⟨n + 1, _, by omega, HS.out, by go_num, rfl⟩
          case measure => simp [intOf]; omega
        · have HS := Hid.mk' (same_no n hx hlt he)
          have hbe : (xs[n] != ys[n]) = true := by simp [he]
          clear he
          go_wp2
          go_quiet (fail)
          go_wp2
          go_ret
          exact ⟨ret_bool HS.out.symm, qt2 _ _ _⟩
      · have HS := Hid.mk' (same_yes (xs := xs) (ys := ys) HL.out (by have : n = xs.length := by omega
                                                                      rw [← this]; exact HT.out))
        go_wp2
        go_ret
        exact ⟨ret_bool HS.out.symm, _, rfl⟩
  · have HS := Hid.mk' (show (xs == ys) = false by rw [beq_eq_false_iff_ne]; rintro rfl; exact hlen rfl)
    have hb : ((xs.length : Int) != (ys.length : Int)) = true := by simp; omega
    clear hlen
    go_enter Try.func85, Try.ntmps85
    go_wp2
    go_ret
    exact ⟨ret_bool HS.out.symm, 0, rfl⟩

theorem textsSame_lens (a a' : Option Addr) (len len' cap cap' : Nat) (xs ys : List Int) (w : World) (hr : Rd w a xs) (hr' : Rd w a' ys) (hl : xs.length ≤ maxLen) (hl' : ys.length ≤ maxLen) (h : xs.length = len) (h' : ys.length = len') (v : Bool) (hv : (xs == ys) = v) :
    Calls Try.prog 85 #[.slice a len cap, .slice a' len' cap'] w fun e w' => e = .returned (.bool v) ∧ ∃ q, w' = w.drewN q := by
  subst h; subst h'; subst hv
  exact textsSame_any a a' cap cap' xs ys w hr hr' hl hl'

end Go.Proofs.Ytdhehffdddbmbaa
