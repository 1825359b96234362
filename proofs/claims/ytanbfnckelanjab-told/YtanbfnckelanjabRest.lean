/-
  Rest: P11: the walks of the program's Before, Longest, IsShared and CheckShared.
-/
import Derived.Test.YtanbfnckelanjabBuiltLaw
import Derived.Test.YtanbfnckelanjabRefBefore
import Derived.Test.YtanbfnckelanjabSort
import Derived.Test.YtanbfnckelanjabMBef
namespace Go.Proofs.Ytanbfnckelanjab
open Go.RowKit

theorem kasai_len (a a' : Option Addr) (cap cap' : Nat) (xs L : List Int) (w : World) (hr : Rd w a xs) (hr' : Rd w a' L) (hl : xs.length ≤ 1073741823) (hO : Ord xs L) :
    Calls Try.prog 28 #[.slice a xs.length cap, .slice a' L.length cap'] w fun e w' => ∃ g, e = .returned (.slice (some ⟨g, 0, none⟩) xs.length xs.length) ∧ w.heap.size ≤ g ∧ Own w' g (shared xs L) ∧ Below w.heap.size w w' := by
  rw [OrdTo.length hO]
  exact kasai_any a a' cap cap' xs L w hr hr' hl hO

theorem sm_start (xs ys : List Int) : xs.take 0 = ys.take 0 := rfl
theorem sm_step {xs ys : List Int} (n : Nat) (hn : n < xs.length) (hy : n < ys.length) (h : xs.take n = ys.take n) (he : xs[n] = ys[n]) : xs.take (n + 1) = ys.take (n + 1) := by
  rw [List.take_succ_eq_append_getElem hn, List.take_succ_eq_append_getElem hy, h, he]
theorem sm_yes {xs ys : List Int} {n : Nat} (hn : xs.length = n) (hy : ys.length = n) (h : xs.take n = ys.take n) : xs = ys := by
  rwa [List.take_of_length_le (by omega), List.take_of_length_le (by omega)] at h

set_option maxHeartbeats 1600000 in
set_option maxRecDepth 100000 in
theorem isShared_any (a a' a2 : Option Addr) (cap cap' cap2 : Nat) (xs L ss : List Int) (w : World) (hr : Rd w a xs) (hr' : Rd w a' L) (hr2 : Rd w a2 ss) (hl : xs.length ≤ 96) (hl2 : ss.length ≤ 1073741824) (hO : Ord xs L) :
    Calls Try.prog 21 #[.slice a xs.length cap, .slice a' L.length cap', .slice a2 ss.length cap2] w fun e w' => TellsB w (shared xs L = ss) e w' := by
  have HO := Hid.mk' hO
  have HLn := Hid.mk' (OrdTo.length hO)
  have HSL := Hid.mk' (shared_length xs L)
  clear hO
  by_cases hlen : ss.length = L.length
  · have HE := Hid.mk' hlen
    have hbl : ((ss.length : Int) != (L.length : Int)) = false := by simp [hlen]
    clear hlen
    go_enter Try.func21, Try.ntmps21
    go_wp2_with fail
    refine (kasai_len _ _ _ _ xs L _ hr hr' (by omega) HO.out).mono ?_
    rintro e w1 ⟨g, rfl, hg, ho, hb1⟩
    have HOS := Hid.mk' ho
    have hs2 := hr2.below hb1
    clear ho
    go_wp2
    go_loopw [8] (fun i wr => ∃ n q : Nat, n ≤ xs.length ∧ i = .int .i64 n ∧ Hid ((shared xs L).take n = ss.take n) ∧ Hid (wr = w1.drewN q)) (fun i _ => xs.length - (intOf i).toNat)
    case atStart => exact ⟨0, 0, Nat.zero_le _, rfl, rfl, rfl⟩
    case round =>
      obtain ⟨n, q, hn, rfl, HT, HW⟩ := hrel
      have hra : Own wr g (shared xs L) := by rw [HW.out]; exact HOS.out.drewN q
      have hrb : Rd wr a2 ss := by rw [HW.out]; exact hs2
      clear hs2 hr2
      by_cases hlt : n < xs.length
      · have hx : n < (shared xs L).length := by rw [HSL.out, HLn.out]; exact hlt
        have hy : n < ss.length := by rw [HE.out, HLn.out]; exact hlt
        obtain ⟨b', off', rfl, hb', hc'⟩ := hrb.at hy
        have hc1 := hra.cell hx
        have hc2 := hrb.cell hy
        rw [show (shared xs L).getD n 0 = (shared xs L)[n] by simp [List.getD, hx]] at hc1
        rw [show ss.getD n 0 = ss[n] by simp [List.getD, hy]] at hc2
        clear hra hrb hc'
        by_cases he : (shared xs L)[n] = ss[n]
        · have HS := Hid.mk' (sm_step n hx hy HT.out he)
          have hbe : (ss[n] != (shared xs L)[n]) = false := by simp [he]
          clear he
          go_wp2
          go_quiet (fail)
          go_wp2
          go_roundw
          case rel => exact ⟨n + 1, _, by omega, by go_num, HS, by rw [HW.out, World.drewN_drewN]; rfl⟩
          case measure => simp [intOf]; omega
        · have HS : Hid (shared xs L ≠ ss) := by rintro rfl; exact he rfl
          have hbe : (ss[n] != (shared xs L)[n]) = true := by simp; exact fun h => he h.symm
          clear he
          go_wp2
          go_quiet (fail)
          go_wp2
          go_ret
          exact TellsB.of false rfl (by simp [HS.out]) (by rw [HW.out, World.drewN_drewN]; exact below_drewN hb1 _)
      · have HS : Hid (shared xs L = ss) := sm_yes (n := n) (by rw [HSL.out, HLn.out]; omega) (by rw [HE.out, HLn.out]; omega) HT.out
        go_wp2
        go_ret
        exact TellsB.of true rfl (by simp [HS.out]) (by rw [HW.out]; exact below_drewN hb1 _)
  · have HS : Hid (shared xs L ≠ ss) := by rintro rfl; exact hlen HSL.out
    have hb : ((ss.length : Int) != (L.length : Int)) = true := by simp; omega
    clear hlen
    go_enter Try.func21, Try.ntmps21
    go_wp2
    go_ret
    exact TellsB.of false rfl (by simp [HS.out]) (Below.refl _ _)

set_option maxHeartbeats 800000 in
theorem checkShared_any (a a' a2 : Option Addr) (cap cap' cap2 : Nat) (xs os ss : List Int) (w : World) (hr : Rd w a xs) (hr' : Rd w a' os) (hr2 : Rd w a2 ss) (hl : xs.length ≤ 1073741824) (hl' : os.length ≤ 1073741824) (hl2 : ss.length ≤ 1073741824) (hcap : xs.length ≤ cap) :
    Calls Try.prog 15 #[.slice a xs.length cap, .slice a' os.length cap', .slice a2 ss.length cap2] w fun e w' => TellsB w (Told xs os ∧ shared xs os = ss) e w' := by
  go_enter Try.func15, Try.ntmps15
  go_wp2_with fail
  refine (isOrder_any _ _ _ _ xs os _ hr hr' hl hl' hcap).mono ?_
  rintro e w1 ⟨b, rfl, hb, q, hw⟩
  have hb1 : Below w.heap.size w w1 := by rw [hw]; exact below_drewN (Below.refl _ _) q
  clear hw
  cases b with
  | false =>
    have HN : Hid (¬ (Told xs os ∧ shared xs os = ss)) := fun h => by have := hb.2 h.1; cases this
    clear hb
    go_wp2
    go_ret
    exact TellsB.of false rfl (by simp only [HN.out]; simp) hb1
  | true =>
    have HT := Hid.mk' (hb.1 rfl)
    clear hb
    have h96 := HT.out.1
    go_wp2_with fail
    refine (isShared_any _ _ _ _ _ _ xs os ss _ (hr.below hb1) (hr'.below hb1) (hr2.below hb1) h96 hl2 HT.out.2.2).mono ?_
    rintro e w2 ⟨z, rfl, hz, hb2⟩
    have HZ := Hid.mk' hz
    clear hz
    have hbb := hb1.trans (hb2.mono hb1.size)
    go_wp2
    go_ret
    exact TellsB.of z rfl (HZ.out.trans ⟨fun h => ⟨HT.out, h⟩, fun h => h.2⟩) hbb

end Go.Proofs.Ytanbfnckelanjab
