/-
  Less: lists compared from the left on, by the document's answer and by the program.
-/
import Derived.Test.YtdhehffdddbmbaaBase
import Derived.Test.YtdhehffdddbmbaaMBase
namespace Go.Proofs.Ytdhehffdddbmbaa
open Go.RowKit

set_option maxHeartbeats 800000 in
theorem less_any (a a' : Option Addr) (cap cap' : Nat) (xs ys : List Int) (w : World) (hr : Rd w a xs) (hr' : Rd w a' ys) (hl : xs.length ≤ 1073741824) :
    Calls Try.prog 52 #[.slice a xs.length cap, .slice a' ys.length cap'] w fun e w' => e = .returned (.bool (lt xs ys)) ∧ ∃ q, w' = w.drewN q := by
  go_enter Try.func52, Try.ntmps52
  go_wp2
  go_loopw [5] (fun i wr => ∃ n q : Nat, n ≤ xs.length ∧ n ≤ ys.length ∧ i = .int .i64 n ∧ Hid (lt xs ys = lt (xs.drop n) (ys.drop n)) ∧ Hid (wr = w.drewN q)) (fun i _ => xs.length - (intOf i).toNat)
  case atStart => exact ⟨0, 0, Nat.zero_le _, Nat.zero_le _, rfl, rfl, rfl⟩
  case round =>
    obtain ⟨n, q, hn, hn', rfl, HT, HW⟩ := hrel
    have hr1 : Rd wr a xs := by rw [HW.out]; exact hr
    have hr2 : Rd wr a' ys := by rw [HW.out]; exact hr'
    clear hr hr'
    by_cases hx : n < xs.length
    · by_cases hy : n < ys.length
      · obtain ⟨b, off, rfl, hb, hc⟩ := hr1.at hx
        obtain ⟨b', off', rfl, hb', hc'⟩ := hr2.at hy
        have hc1 := hc n hx
        have hc2 := hc' n hy
        clear hc hc' hr1 hr2
        have hs := lt_step hx hy
        by_cases he : xs[n] = ys[n]
        · rw [if_pos he] at hs
          have HS := Hid.mk' (HT.out.trans hs)
          have hbe : (xs[n] != ys[n]) = false := by simp [he]
          clear he hs
          go_wp2
          go_quiet (fail)
          go_wp2
          go_roundw
          case rel => exact ⟨n + 1, _, by omega, by omega, by go_num, HS, by rw [HW.out, World.drewN_drewN]; rfl⟩
          case measure => simp [intOf]; omega
        · rw [if_neg he] at hs
          have HS := Hid.mk' (HT.out.trans hs)
          have hbe : (xs[n] != ys[n]) = true := by simp [he]
          clear he hs
          go_wp2
          go_quiet (fail)
          go_wp2
          go_quiet (fail)
          go_wp2
          go_ret
          exact ⟨ret_bool (by rw [HS.out]), by rw [HW.out]; simp only [World.drewN_drewN]; exact ⟨_, rfl⟩⟩
      · have HS := Hid.mk' (HT.out.trans (lt_end_right hx (by omega)))
        go_wp2
        go_ret
        exact ⟨ret_bool (by rw [HS.out]), q, HW.out⟩
    · have HS := Hid.mk' (HT.out.trans (lt_end_left (by omega) (by omega)))
      go_wp2
      go_ret
      exact ⟨ret_bool (by rw [HS.out]), q, HW.out⟩

set_option maxHeartbeats 800000 in
theorem lesser_any (a a' : Option Addr) (cap cap' : Nat) (xs ys : List Int) (w : World) (hr : Rd w a xs) (hr' : Rd w a' ys) (hl : xs.length ≤ 1073741824) :
    Calls Try.prog 72 #[.slice a xs.length cap, .slice a' ys.length cap'] w fun e w' => e = .returned (.bool (lt xs ys)) ∧ ∃ q, w' = w.drewN q := by
  go_enter Try.func72, Try.ntmps72
  go_wp2
  go_loopw [5] (fun i wr => ∃ n q : Nat, n ≤ xs.length ∧ n ≤ ys.length ∧ i = .int .i64 n ∧ Hid (lt xs ys = lt (xs.drop n) (ys.drop n)) ∧ Hid (wr = w.drewN q)) (fun i _ => xs.length - (intOf i).toNat)
  case atStart => exact ⟨0, 0, Nat.zero_le _, Nat.zero_le _, rfl, rfl, rfl⟩
  case round =>
    obtain ⟨n, q, hn, hn', rfl, HT, HW⟩ := hrel
    have hr1 : Rd wr a xs := by rw [HW.out]; exact hr
    have hr2 : Rd wr a' ys := by rw [HW.out]; exact hr'
    clear hr hr'
    by_cases hx : n < xs.length
    · by_cases hy : n < ys.length
      · obtain ⟨b, off, rfl, hb, hc⟩ := hr1.at hx
        obtain ⟨b', off', rfl, hb', hc'⟩ := hr2.at hy
        have hc1 := hc n hx
        have hc2 := hc' n hy
        clear hc hc' hr1 hr2
        have hs := lt_step hx hy
        by_cases he : xs[n] = ys[n]
        · rw [if_pos he] at hs
          have HS := Hid.mk' (HT.out.trans hs)
          have hbe : (xs[n] != ys[n]) = false := by simp [he]
          clear he hs
          go_wp2
          go_quiet (fail)
          go_wp2
          go_roundw
          case rel => exact ⟨n + 1, _, by omega, by omega, by go_num, HS, by rw [HW.out, World.drewN_drewN]; rfl⟩
          case measure => simp [intOf]; omega
        · rw [if_neg he] at hs
          have HS := Hid.mk' (HT.out.trans hs)
          have hbe : (xs[n] != ys[n]) = true := by simp [he]
          clear he hs
          go_wp2
          go_quiet (fail)
          go_wp2
          go_quiet (fail)
          go_wp2
          go_ret
          exact ⟨ret_bool (by rw [HS.out]), by rw [HW.out]; simp only [World.drewN_drewN]; exact ⟨_, rfl⟩⟩
      · have HS := Hid.mk' (HT.out.trans (lt_end_right hx (by omega)))
        go_wp2
        go_ret
        exact ⟨ret_bool (by rw [HS.out]), q, HW.out⟩
    · have HS := Hid.mk' (HT.out.trans (lt_end_left (by omega) (by omega)))
      go_wp2
      go_ret
      exact ⟨ret_bool (by rw [HS.out]), q, HW.out⟩

end Go.Proofs.Ytdhehffdddbmbaa
