/-
  Rest: P11: the walks of the program's Before, Longest, IsShared and CheckShared.
-/
import Derived.Test.YtdhehffdddbmbaaBuiltLaw
import Derived.Test.YtdhehffdddbmbaaRefBefore
import Derived.Test.YtdhehffdddbmbaaSort
import Derived.Test.YtdhehffdddbmbaaMBef
import Derived.Test.YtdhehffdddbmbaaTSame
import Derived.Test.YtdhehffdddbmbaaPieces2
import Derived.Test.YtdhehffdddbmbaaTurnA
namespace Go.Proofs.Ytdhehffdddbmbaa
open Go.RowKit

theorem beforeErr_any (a : Option Addr) (cap : Nat) (xs : List Int) (k : Int) (w : World) (hr : Rd w a xs) (hl : xs.length ≤ maxLen) (hs : scanE xs k ≠ 0) :
    Calls Try.prog 32 #[.slice a xs.length cap, .int .i64 k] w fun e w' => e = .returned (.tuple #[.slice none 0 0, .int .i64 (scanE xs k)]) ∧ Below w.heap.size w w' := by
  have hb : (scanE xs k != 0) = true := by simpa using hs
  clear hs
  go_enter Try.func32, Try.ntmps32
  go_wp2_with (go_at_call 44; refine (fault_any a cap xs k _ hr hl).mono ?_; rintro e w' ⟨rfl, rfl⟩)
  go_ret2
  exact ⟨rfl, Below.refl _ _⟩

set_option maxHeartbeats 800000 in
theorem beforeOk_any (a : Option Addr) (cap : Nat) (xs : List Int) (k : Int) (w : World) (hr : Rd w a xs) (hcap : xs.length ≤ cap) (_hcap' : cap ≤ 9223372036854775807) (hs : scanE xs k = 0) :
    Calls Try.prog 32 #[.slice a xs.length cap, .int .i64 k] w fun e w' => ∃ v L bs, Ord xs L ∧ IsBefore xs L bs ∧ e = .returned (.tuple #[v, .int .i64 0]) ∧ w'.ownsRow w.heap.size 3 1 v xs.length (bs.map (Value.int .i64)) ∧ Below w.heap.size w w' := by
  have h96 := (scan_zero hs).1
  have hl : xs.length ≤ maxLen := by unfold maxLen; omega
  have hb : (scanE xs k != 0) = false := by simpa using hs
  clear hs
  go_enter Try.func32, Try.ntmps32
  go_wp2_with (go_at_call 44; refine (fault_any a cap xs k _ hr hl).mono ?_; rintro e w' ⟨rfl, rfl⟩)
  refine (ranksSort_any _ _ xs _ hr h96 hcap).mono ?_
  rintro e w1 ⟨g, L, hL, rfl, hg, ho, hb1⟩
  have HL := Hid.mk' hL
  clear hL
  go_wp2_with fail
  refine (beforeEach_any _ _ xs L _ (ho.alloc _).rd (by omega) HL.out).mono ?_
  rintro e w2 ⟨rfl, ho2, hb2⟩
  have hs1 := hb1.size
  have hsz : ∀ o, (w1.alloc o).heap.size = w1.heap.size + 1 := fun o => by simp
  have hbb := (hb1.alloc hs1 _).trans (hb2.mono (by rw [hsz]; omega))
  rw [hsz] at ho2
  clear hb2 hb1
  go_wp2
  go_ret2
  exact ⟨_, L, _, HL.out, befs_isBefore HL.out, rfl, owns_of_own ho2 (by omega) (befs_length _ _) hl, hbb⟩

theorem longestErr_any (a : Option Addr) (cap : Nat) (xs : List Int) (k : Int) (w : World) (hr : Rd w a xs) (hl : xs.length ≤ maxLen) (hs : scanE xs k ≠ 0) :
    Calls Try.prog 33 #[.slice a xs.length cap, .int .i64 k] w fun e w' => e = .returned (.tuple #[.slice none 0 0, .int .i64 (scanE xs k)]) ∧ Below w.heap.size w w' := by
  have hb : (scanE xs k != 0) = true := by simpa using hs
  clear hs
  go_enter Try.func33, Try.ntmps33
  go_wp2_with (go_at_call 44; refine (fault_any a cap xs k _ hr hl).mono ?_; rintro e w' ⟨rfl, rfl⟩)
  go_ret2
  exact ⟨rfl, Below.refl _ _⟩

set_option maxHeartbeats 800000 in
theorem longestOk_any (a : Option Addr) (cap : Nat) (xs : List Int) (k : Int) (w : World) (hr : Rd w a xs) (hcap : xs.length ≤ cap) (_hcap' : cap ≤ 9223372036854775807) (hs : scanE xs k = 0) :
    Calls Try.prog 33 #[.slice a xs.length cap, .int .i64 k] w fun e w' => ∃ v L bs, Ord xs L ∧ IsBefore xs L bs ∧ e = .returned (.tuple #[v, .int .i64 0]) ∧ w'.ownsRow w.heap.size 3 1 v xs.length ((longest xs bs).map (Value.int .i64)) ∧ Below w.heap.size w w' := by
  have h96 := (scan_zero hs).1
  have hl : xs.length ≤ maxLen := by unfold maxLen; omega
  have hb : (scanE xs k != 0) = false := by simpa using hs
  clear hs
  go_enter Try.func33, Try.ntmps33
  go_wp2_with (go_at_call 44; refine (fault_any a cap xs k _ hr hl).mono ?_; rintro e w' ⟨rfl, rfl⟩)
  refine (ranksSort_any _ _ xs _ hr h96 hcap).mono ?_
  rintro e w1 ⟨g, L, hL, rfl, hg, ho, hb1⟩
  have HL := Hid.mk' hL
  clear hL
  go_wp2_with fail
  refine (beforeEach_any _ _ xs L _ (ho.alloc _).rd (by omega) HL.out).mono ?_
  rintro e w2 ⟨rfl, ho2, hb2⟩
  have hs1 := hb1.size
  have hsz : ∀ o, (w1.alloc o).heap.size = w1.heap.size + 1 := fun o => by simp
  have hbb := (hb1.alloc hs1 _).trans (hb2.mono (by rw [hsz]; omega))
  rw [hsz] at ho2
  clear hb2 hb1
  go_wp2_with fail
  refine (longestOf_any _ _ _ _ xs L _ (hr.below hbb) ho2.rd (by omega) HL.out).mono ?_
  rintro e w3 ⟨rfl, ho3, hb3⟩
  have hs2 := hbb.size
  have hbc := hbb.trans (hb3.mono hs2)
  have HQ : Hid (longest xs (befs L xs.length) = lgs xs L) := longest_lgs HL.out
  clear hb3 hbb ho2
  go_wp2
  go_ret2
  exact ⟨_, L, befs L xs.length, HL.out, befs_isBefore HL.out, rfl, by rw [HQ.out]; exact owns_of_own ho3 hs2 (lgs_length _ _) hl, hbc⟩

theorem kasai_len (a a' : Option Addr) (cap cap' : Nat) (xs L : List Int) (w : World) (hr : Rd w a xs) (hr' : Rd w a' L) (hl : xs.length ≤ 1073741823) (hO : Ord xs L) :
    Calls Try.prog 84 #[.slice a xs.length cap, .slice a' L.length cap'] w fun e w' => ∃ g, e = .returned (.slice (some ⟨g, 0, none⟩) xs.length xs.length) ∧ w.heap.size ≤ g ∧ Own w' g (shared xs L) ∧ Below w.heap.size w w' := by
  rw [OrdTo.length hO]
  exact kasai_any a a' cap cap' xs L w hr hr' hl hO

set_option maxHeartbeats 800000 in
theorem isShared_any (a a' a2 : Option Addr) (cap cap' cap2 : Nat) (xs L ss : List Int) (w : World) (hr : Rd w a xs) (hr' : Rd w a' L) (hr2 : Rd w a2 ss) (hl : xs.length ≤ 96) (hl2 : ss.length ≤ 1073741824) (hO : Ord xs L) :
    Calls Try.prog 63 #[.slice a xs.length cap, .slice a' L.length cap', .slice a2 ss.length cap2] w fun e w' => TellsB w (shared xs L = ss) e w' := by
  have HO := Hid.mk' hO
  have HSL := Hid.mk' ((shared_length xs L).trans (OrdTo.length hO))
  clear hO
  obtain ⟨z, hz⟩ : ∃ z, (ss == shared xs L) = z := ⟨_, rfl⟩
  have HZ := Hid.mk' hz
  clear hz
  go_enter Try.func63, Try.ntmps63
  go_wp2_with fail
  refine (kasai_len _ _ _ _ xs L _ hr hr' (by omega) HO.out).mono ?_
  rintro e w1 ⟨g, rfl, hg, ho, hb1⟩
  have hs2 := hr2.below hb1
  have hrd := ho.rd
  clear ho
  go_wp2_with fail
  refine (textsSame_lens _ _ _ _ _ _ ss (shared xs L) _ hs2 hrd (by unfold maxLen; omega) (by rw [HSL.out]; unfold maxLen; omega) rfl HSL.out z HZ.out).mono ?_
  rintro e w2 ⟨rfl, q, rfl⟩
  go_wp2
  go_ret
  exact TellsB.of z rfl (by rw [← HZ.out, beq_iff_eq, eq_comm]) (below_drewN hb1 q)

set_option maxHeartbeats 800000 in
theorem checkShared_any (a a' a2 : Option Addr) (cap cap' cap2 : Nat) (xs os ss : List Int) (w : World) (hr : Rd w a xs) (hr' : Rd w a' os) (hr2 : Rd w a2 ss) (hl : xs.length ≤ 1073741824) (hl' : os.length ≤ 1073741824) (hl2 : ss.length ≤ 1073741824) (hcap : xs.length ≤ cap) :
    Calls Try.prog 36 #[.slice a xs.length cap, .slice a' os.length cap', .slice a2 ss.length cap2] w fun e w' => TellsB w (Told xs os ∧ shared xs os = ss) e w' := by
  go_enter Try.func36, Try.ntmps36
  go_wp2_with fail
  refine (isOrder_any _ _ _ _ xs os _ hr hr' hl hl' hcap).mono ?_
  rintro e w1 ⟨b, rfl, hb, q, hw⟩
  have hb1 : Below w.heap.size w w1 := by rw [hw]; exact below_drewN (Below.refl _ _) q
  clear hw
  cases b with
  | false =>
    have HN : Hid (¬ (Told xs os ∧ shared xs os = ss)) := fun h => by have := hb.2 h.1; cases this
    clear hb
    go_wp2
    go_ret
    exact TellsB.of false rfl (by simp only [HN.out]; simp) hb1
  | true =>
    have HT := Hid.mk' (hb.1 rfl)
    clear hb
    have h96 := HT.out.1
    go_wp2_with fail
    refine (isShared_any _ _ _ _ _ _ xs os ss _ (hr.below hb1) (hr'.below hb1) (hr2.below hb1) h96 hl2 HT.out.2.2).mono ?_
    rintro e w2 ⟨z, rfl, hz, hb2⟩
    have HZ := Hid.mk' hz
    clear hz
    have hbb := hb1.trans (hb2.mono hb1.size)
    go_wp2
    go_ret
    exact TellsB.of z rfl (HZ.out.trans ⟨fun h => ⟨HT.out, h⟩, fun h => h.2⟩) hbb

end Go.Proofs.Ytdhehffdddbmbaa
