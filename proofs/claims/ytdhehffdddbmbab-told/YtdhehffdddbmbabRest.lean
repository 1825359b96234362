/-
  Rest: P11: the walks of the program's Before, Longest, IsShared and CheckShared.
-/
import Derived.Test.YtdhehffdddbmbabBuiltLaw
import Derived.Test.YtdhehffdddbmbabRefBefore
import Derived.Test.YtdhehffdddbmbabSort
import Derived.Test.YtdhehffdddbmbabMBef
import Derived.Test.YtdhehffdddbmbabTSame
import Derived.Test.YtdhehffdddbmbabPieces2
import Derived.Test.YtdhehffdddbmbabTurnA
namespace Go.Proofs.Ytdhehffdddbmbab
open Go.RowKit

theorem kasai_len (a a' : Option Addr) (cap cap' : Nat) (xs L : List Int) (w : World) (hr : Rd w a xs) (hr' : Rd w a' L) (hl : xs.length ≤ 1073741823) (hO : Ord xs L) :
    Calls Try.prog 31 #[.slice a xs.length cap, .slice a' L.length cap'] w fun e w' => ∃ g, e = .returned (.slice (some ⟨g, 0, none⟩) xs.length xs.length) ∧ w.heap.size ≤ g ∧ Own w' g (shared xs L) ∧ Below w.heap.size w w' := by
  rw [OrdTo.length hO]
  exact kasai_any a a' cap cap' xs L w hr hr' hl hO

set_option maxHeartbeats 800000 in
theorem isShared_any (a a' a2 : Option Addr) (cap cap' cap2 : Nat) (xs L ss : List Int) (w : World) (hr : Rd w a xs) (hr' : Rd w a' L) (hr2 : Rd w a2 ss) (hl : xs.length ≤ 96) (hl2 : ss.length ≤ 1073741824) (hO : Ord xs L) :
    Calls Try.prog 23 #[.slice a xs.length cap, .slice a' L.length cap', .slice a2 ss.length cap2] w fun e w' => TellsB w (shared xs L = ss) e w' := by
  have HO := Hid.mk' hO
  have HSL := Hid.mk' ((shared_length xs L).trans (OrdTo.length hO))
  clear hO
  obtain ⟨z, hz⟩ : ∃ z, (ss == shared xs L) = z := ⟨_, rfl⟩
  have HZ := Hid.mk' hz
  clear hz
  go_enter Try.func23, Try.ntmps23
  go_wp2_with fail
  refine (kasai_len _ _ _ _ xs L _ hr hr' (by omega) HO.out).mono ?_
  rintro e w1 ⟨g, rfl, hg, ho, hb1⟩
  have hs2 := hr2.below hb1
  have hrd := ho.rd
  clear ho
  go_wp2_with fail
  refine (textsSame_lens _ _ _ _ _ _ ss (shared xs L) _ hs2 hrd (by unfold maxLen; omega) (by rw [HSL.out]; unfold maxLen; omega) rfl HSL.out z HZ.out).mono ?_
  rintro e w2 ⟨rfl, q, rfl⟩
  go_wp2
  go_ret
  exact TellsB.of z rfl (by rw [← HZ.out, beq_iff_eq, eq_comm]) (below_drewN hb1 q)

set_option maxHeartbeats 800000 in
theorem checkShared_any (a a' a2 : Option Addr) (cap cap' cap2 : Nat) (xs os ss : List Int) (w : World) (hr : Rd w a xs) (hr' : Rd w a' os) (hr2 : Rd w a2 ss) (hl : xs.length ≤ 1073741824) (hl' : os.length ≤ 1073741824) (hl2 : ss.length ≤ 1073741824) (hcap : xs.length ≤ cap) :
    Calls Try.prog 16 #[.slice a xs.length cap, .slice a' os.length cap', .slice a2 ss.length cap2] w fun e w' => TellsB w (Told xs os ∧ shared xs os = ss) e w' := by
  go_enter Try.func16, Try.ntmps16
  go_wp2_with fail
  refine (isOrder_any _ _ _ _ xs os _ hr hr' hl hl' hcap).mono ?_
  rintro e w1 ⟨b, rfl, hb, q, hw⟩
  have hb1 : Below w.heap.size w w1 := by rw [hw]; exact below_drewN (Below.refl _ _) q
  clear hw
  cases b with
  | false =>
    have HN : Hid (¬ (Told xs os ∧ shared xs os = ss)) := fun h => by have := hb.2 h.1; cases this
    clear hb
    go_wp2
    go_ret
    exact TellsB.of false rfl (by simp only [HN.out]; simp) hb1
  | true =>
    have HT := Hid.mk' (hb.1 rfl)
    clear hb
    have h96 := HT.out.1
    go_wp2_with fail
    refine (isShared_any _ _ _ _ _ _ xs os ss _ (hr.below hb1) (hr'.below hb1) (hr2.below hb1) h96 hl2 HT.out.2.2).mono ?_
    rintro e w2 ⟨z, rfl, hz, hb2⟩
    have HZ := Hid.mk' hz
    clear hz
    have hbb := hb1.trans (hb2.mono hb1.size)
    go_wp2
    go_ret
    exact TellsB.of z rfl (HZ.out.trans ⟨fun h => ⟨HT.out, h⟩, fun h => h.2⟩) hbb

end Go.Proofs.Ytdhehffdddbmbab
