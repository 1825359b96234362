/-
  WOne: for All: the walks of Scans, Renames, Sides, Orders, Ranked as theorems.
-/
import Derived.Test.YtdhehffdddbmbabGreatRow
import Derived.Test.YtdhehffdddbmbabGreatLaw
import Derived.ProofKit
import Derived.Test.YtdhehffdddbmbabGreatRefDense
import Derived.Test.YtdhehffdddbmbabGreatRefKinds
import Derived.Test.YtdhehffdddbmbabGreatRefOrder
import Derived.Test.YtdhehffdddbmbabGreatRanks
/-! ## WScans -/

namespace Go.Proofs.YtdhehffdddbmbabGreat
open Go.RowKit
set_option linter.unusedVariables false

set_option maxHeartbeats 1600000 in
set_option maxRecDepth 100000 in
theorem scans_walk (a0 : Option Addr) (len0 cap0 : Nat) (z0 : List Int) (a1 : Int) (w : World) (w0 : IsRow .i64 w a0 len0 cap0 z0) (w1 : (Lit.int .i64 a1).wf = true) :
    Calls Tryz.prog 4 #[.slice a0 len0 cap0, .int .i64 a1] w fun e w' => e = .returned (.bool true) ∧ Below w.heap.size w w' := by
  obtain ⟨xs, rfl, hr, hl, -⟩ := rd_of_row w0
  unfold maxLen at hl
  by_cases hbig : 1073741824 < xs.length
  · go_enter Tryz.func4, Tryz.ntmps4
    go_wp2
    go_ret
    exact ⟨rfl, Below.refl _ _⟩
  · go_enter Tryz.func4, Tryz.ntmps4
    go_wp2_with fail
    refine (lent_any a0 cap0 xs _ hr (by omega)).mono ?_
    rintro e w' ⟨rfl, ho, hb, hs⟩
    have hr1 := hr.below hb
    have hro : Rd w' (some ⟨w.heap.size, 0, none⟩) xs := by simpa using ho.rd.take xs.length
    go_wp2_with fail
    refine (scan_any _ _ xs a1 _ hro (by unfold maxLen; omega)).mono ?_
    rintro e w2 ⟨rfl, rfl⟩
    go_wp2_with fail
    refine (refScan_any _ _ xs a1 _ hr1 (by unfold maxLen; omega)).mono ?_
    rintro e w2 ⟨rfl, rfl⟩
    go_wp2_with fail
    refine (whole_any _ _ _ xs _ ho hr1 (by omega)).mono ?_
    rintro e w2 ⟨rfl, q, rfl⟩
    go_wp2
    go_ret
    exact ⟨rfl, below_drewN hb q⟩

end Go.Proofs.YtdhehffdddbmbabGreat

/-! ## WRenames -/

namespace Go.Proofs.YtdhehffdddbmbabGreat
open Go.RowKit
set_option linter.unusedVariables false

set_option maxHeartbeats 1600000 in
set_option maxRecDepth 100000 in
theorem renames_walk (a0 : Option Addr) (len0 cap0 : Nat) (z0 : List Int) (a1 : Int) (w : World) (w0 : IsRow .i64 w a0 len0 cap0 z0) (w1 : (Lit.int .i64 a1).wf = true) :
    Calls Tryz.prog 5 #[.slice a0 len0 cap0, .int .i64 a1] w fun e w' => e = .returned (.bool true) ∧ Below w.heap.size w w' := by
  obtain ⟨xs, rfl, hr, hl, -⟩ := rd_of_row w0
  have hcap : xs.length ≤ cap0 := row_cap w0
  unfold maxLen at hl
  by_cases hbig : 1073741824 < xs.length
  · go_enter Tryz.func5, Tryz.ntmps5
    go_wp2
    go_ret
    exact ⟨rfl, Below.refl _ _⟩
  · have hml : xs.length ≤ maxLen := by unfold maxLen; omega
    by_cases hs : scanE xs a1 = 0
    · have HE := Hid.mk' hs
      have hk := kinds_le xs
      have hbl := buckets_length xs
      have hdl := dense_length xs
      have HBL := Hid.mk' hbl
      have HDL := Hid.mk' hdl
      clear hs hbl hdl
      go_enter Tryz.func5, Tryz.ntmps5
      go_wp2_with fail
      refine (lent_any a0 cap0 xs _ hr (by omega)).mono ?_
      rintro e w1 ⟨rfl, ho, hb, hsz⟩
      have hr1 := hr.below hb
      have hro : Rd w1 (some ⟨w.heap.size, 0, none⟩) xs := by simpa using ho.rd.take xs.length
      go_wp2_with fail
      refine (denseOk_any _ _ xs a1 _ hro HE.out).mono ?_
      rintro e w2 ⟨g, hg, rfl, hod, hb2⟩
      have hlt2 := hod.lt
      have hro2 := hro.below hb2
      go_wp2_with fail
      refine (bucketsOk_any _ _ xs a1 _ hro2 HE.out).mono ?_
      rintro e w3 ⟨g', hg', rfl, hob, hb3⟩
      have hod3 : Own w3 g (dense xs) := hod.below hb3 hlt2
      have hlt3 := hob.lt
      have ho3 : Own w3 w.heap.size (xs ++ [77, 77]) := (ho.below hb2 hsz).below hb3 (by have := hb2.size; omega)
      have hb13 : Below w1.heap.size w1 w3 := hb2.trans (hb3.mono hb2.size)
      have hr3 := hr1.below hb13
      clear hro hro2 hod hr1 hb2 hb3 ho
      go_wp2_with fail
      refine (whole_any _ _ _ xs _ ho3 hr3 (by omega)).mono ?_
      rintro e w4 ⟨rfl, q4, hw4⟩
      have hr4 : Rd w4 a0 xs := by rw [hw4]; exact hr3
      have ho4 : Own w4 w.heap.size (xs ++ [77, 77]) := by rw [hw4]; exact ho3
      have hob4 : Own w4 g' (buckets xs) := by rw [hw4]; exact hob
      have hod4 : Own w4 g (dense xs) := by rw [hw4]; exact hod3
      have hb14 : Below w1.heap.size w1 w4 := by rw [hw4]; exact below_drewN hb13 q4
      have hz4 : w3.heap.size ≤ w4.heap.size := by rw [hw4]; exact Nat.le_refl _
      clear hw4 ho3 hr3 hob hod3 hb13
      go_wp2_with fail
      refine (refScan_any _ _ xs a1 _ hr4 hml).mono ?_
      rintro e w5 ⟨rfl, rfl⟩
      rw [HE.out]
      go_wp2_with fail
      refine (refDense_any _ _ xs _ hr4 (by omega) hcap).mono ?_
      rintro e w6 ⟨rfl, hwant, hb6⟩
      have hr6 := hr4.below hb6
      have hlt6 := hwant.lt
      go_wp2_with fail
      refine (refBuckets_any _ _ xs _ hr6 (by omega) hcap).mono ?_
      rintro e w7 ⟨v, rfl, hall, hb7⟩
      have hw7 : Own w7 w5.heap.size (dense xs) := hwant.below hb7 hlt6
      have hb57 : Below w5.heap.size w5 w7 := hb6.trans (hb7.mono hb6.size)
      have hr7 := hr6.below hb7
      have hob7 : Own w7 g' (buckets xs) := hob4.below hb57 (by omega)
      have hod7 : Own w7 g (dense xs) := hod4.below hb57 (by omega)
      have ho7 : Own w7 w.heap.size (xs ++ [77, 77]) := ho4.below hb57 (by have := hb14.size; omega)
      have hb17 : Below w1.heap.size w1 w7 := hb14.trans (hb57.mono hb14.size)
      clear hr4 hr6 hob4 hod4 ho4 hwant hb6 hb7 hb57
      rcases hall.2 with ⟨_, h0⟩ | ⟨gv, cv, cur, rfl, _, _, hcv, hcm, _, _⟩
      · rw [HBL.out] at h0; omega
      · have hra := rd_of_owns hall
        clear hall
        go_wp2_with fail
        refine (same_eq _ _ _ _ _ _ (dense xs) _ hod7.rd hw7.rd (by rw [HDL.out]; exact hml) HDL.out HDL.out).mono ?_
        rintro e w8 ⟨rfl, q8, hw8⟩
        have hr8 : Rd w8 a0 xs := by rw [hw8]; exact hr7
        have ho8 : Own w8 w.heap.size (xs ++ [77, 77]) := by rw [hw8]; exact ho7
        have hob8 : Own w8 g' (buckets xs) := by rw [hw8]; exact hob7
        have hod8 : Own w8 g (dense xs) := by rw [hw8]; exact hod7
        have hra8 : Rd w8 (some ⟨gv, 0, none⟩) (buckets xs) := by rw [hw8]; exact hra
        have hb18 : Below w1.heap.size w1 w8 := by rw [hw8]; exact below_drewN hb17 q8
        clear hw8 hr7 ho7 hob7 hod7 hra hb17 hw7
        go_wp2_with fail
        refine (same_eq _ _ _ _ _ _ (buckets xs) _ hob8.rd hra8 (by rw [HBL.out]; unfold maxLen; omega) rfl rfl).mono ?_
        rintro e w9 ⟨rfl, q9, hw9⟩
        have hr9 : Rd w9 a0 xs := by rw [hw9]; exact hr8
        have ho9 : Own w9 w.heap.size (xs ++ [77, 77]) := by rw [hw9]; exact ho8
        have hob9 : Own w9 g' (buckets xs) := by rw [hw9]; exact hob8
        have hod9 : Own w9 g (dense xs) := by rw [hw9]; exact hod8
        have hb19 : Below w1.heap.size w1 w9 := by rw [hw9]; exact below_drewN hb18 q9
        clear hw9 hr8 ho8 hob8 hod8 hra8 hb18
        go_wp2_with fail
        refine (mine_own w1.heap.size g g' _ _ _ _ _ _ _ hg (by omega) hb19.size (by omega) hod9.v (by simp [HDL.out]) (by omega) hob9.v (by simp) (by rw [HBL.out]; omega)).mono ?_
        rintro e w10 ⟨rfl, hb10⟩
        have ho10 : Own w10 w.heap.size (xs ++ [77, 77]) := ho9.below hb10 hsz
        have hb110 : Below w.heap.size w w10 := hb.trans ((hb19.trans hb10).mono hb.size)
        have hr10 : Rd w10 a0 xs := hr.below hb110
        clear hr9 ho9 hob9 hod9 hb19 hb10
        go_wp2_with fail
        refine (whole_any _ _ _ xs _ ho10 hr10 (by omega)).mono ?_
        rintro e w11 ⟨rfl, q11, rfl⟩
        go_wp2
        go_ret
        exact ⟨rfl, below_drewN hb110 q11⟩
    · have HE := Hid.mk' hs
      have hbs : (scanE xs a1 != 0) = true := by simpa using hs
      clear hs
      go_enter Tryz.func5, Tryz.ntmps5
      go_wp2_with fail
      refine (lent_any a0 cap0 xs _ hr (by omega)).mono ?_
      rintro e w1 ⟨rfl, ho, hb, hsz⟩
      have hr1 := hr.below hb
      have hro : Rd w1 (some ⟨w.heap.size, 0, none⟩) xs := by simpa using ho.rd.take xs.length
      go_wp2_with fail
      refine (denseErr_any _ _ xs a1 _ hro hml HE.out).mono ?_
      rintro e w2 ⟨rfl, rfl⟩
      go_wp2_with fail
      refine (bucketsErr_any _ _ xs a1 _ hro hml HE.out).mono ?_
      rintro e w2 ⟨rfl, rfl⟩
      go_wp2_with fail
      refine (whole_any _ _ _ xs _ ho hr1 (by omega)).mono ?_
      rintro e w4 ⟨rfl, q4, hw4⟩
      have hr4 : Rd w4 a0 xs := by rw [hw4]; exact hr1
      have hb4 : Below w.heap.size w w4 := by rw [hw4]; exact below_drewN hb q4
      clear hw4
      go_wp2_with fail
      refine (refScan_any _ _ xs a1 _ hr4 hml).mono ?_
      rintro e w5 ⟨rfl, rfl⟩
      have hnil := eql_nil none 0 0
      go_wp2
      go_ret
      exact ⟨rfl, hb4⟩

end Go.Proofs.YtdhehffdddbmbabGreat

/-! ## WSides -/

namespace Go.Proofs.YtdhehffdddbmbabGreat
open Go.RowKit
set_option linter.unusedVariables false

set_option maxHeartbeats 1600000 in
set_option maxRecDepth 100000 in
theorem sides_walk (a0 : Option Addr) (len0 cap0 : Nat) (z0 : List Int) (a1 : Int) (w : World) (w0 : IsRow .i64 w a0 len0 cap0 z0) (w1 : (Lit.int .i64 a1).wf = true) :
    Calls Tryz.prog 6 #[.slice a0 len0 cap0, .int .i64 a1] w fun e w' => e = .returned (.bool true) ∧ Below w.heap.size w w' := by
  obtain ⟨xs, rfl, hr, hl, -⟩ := rd_of_row w0
  have hcap : xs.length ≤ cap0 := row_cap w0
  have hcap' : cap0 ≤ 9223372036854775807 := row_max w0
  unfold maxLen at hl
  by_cases hbig : 1073741824 < xs.length
  · go_enter Tryz.func6, Tryz.ntmps6
    go_wp2
    go_ret
    exact ⟨rfl, Below.refl _ _⟩
  · have hml : xs.length ≤ maxLen := by unfold maxLen; omega
    by_cases hs : scanE xs a1 = 0
    · have HE := Hid.mk' hs
      clear hs
      go_enter Tryz.func6, Tryz.ntmps6
      go_wp2_with fail
      refine (lent_any a0 cap0 xs _ hr (by omega)).mono ?_
      rintro e w1 ⟨rfl, ho, hb, hsz⟩
      have hro : Rd w1 (some ⟨w.heap.size, 0, none⟩) xs := by simpa using ho.rd.take xs.length
      go_wp2_with fail
      refine (kindsOk_any _ _ xs a1 _ hro (by omega) HE.out).mono ?_
      rintro e w2 ⟨rfl, hb2⟩
      have ho2 : Own w2 w.heap.size (xs ++ [77, 77]) := ho.below hb2 hsz
      have hb02 : Below w.heap.size w w2 := hb.trans (hb2.mono hb.size)
      have hr2 := hr.below hb02
      clear hro ho hb2
      go_wp2_with fail
      refine (whole_any _ _ _ xs _ ho2 hr2 (by omega)).mono ?_
      rintro e w4 ⟨rfl, q4, hw4⟩
      have hr4 : Rd w4 a0 xs := by rw [hw4]; exact hr2
      have hb4 : Below w.heap.size w w4 := by rw [hw4]; exact below_drewN hb02 q4
      clear hw4 ho2 hr2 hb02
      go_wp2_with fail
      refine (refScan_any _ _ xs a1 _ hr4 hml).mono ?_
      rintro e w5 ⟨rfl, rfl⟩
      rw [HE.out]
      go_wp2_with fail
      refine (refKinds_any _ _ xs _ hr4 (by omega) hcap hcap').mono ?_
      rintro e w6 ⟨rfl, hb6⟩
      have hb06 : Below w.heap.size w w6 := hb4.trans (hb6.mono hb4.size)
      generalize strOfNums (kindsL xs) = st
      go_wp2
      go_ret
      exact ⟨ret_bool (by simp), hb06⟩
    · have HE := Hid.mk' hs
      have hbs : (scanE xs a1 != 0) = true := by simpa using hs
      clear hs
      go_enter Tryz.func6, Tryz.ntmps6
      go_wp2_with fail
      refine (lent_any a0 cap0 xs _ hr (by omega)).mono ?_
      rintro e w1 ⟨rfl, ho, hb, hsz⟩
      have hr1 := hr.below hb
      have hro : Rd w1 (some ⟨w.heap.size, 0, none⟩) xs := by simpa using ho.rd.take xs.length
      go_wp2_with fail
      refine (kindsErr_any _ _ xs a1 _ hro hml HE.out).mono ?_
      rintro e w2 ⟨rfl, rfl⟩
      go_wp2_with fail
      refine (whole_any _ _ _ xs _ ho hr1 (by omega)).mono ?_
      rintro e w4 ⟨rfl, q4, hw4⟩
      have hr4 : Rd w4 a0 xs := by rw [hw4]; exact hr1
      have hb4 : Below w.heap.size w w4 := by rw [hw4]; exact below_drewN hb q4
      clear hw4
      go_wp2_with fail
      refine (refScan_any _ _ xs a1 _ hr4 hml).mono ?_
      rintro e w5 ⟨rfl, rfl⟩
      go_wp2
      go_ret
      exact ⟨rfl, hb4⟩

end Go.Proofs.YtdhehffdddbmbabGreat

/-! ## WOrders -/

namespace Go.Proofs.YtdhehffdddbmbabGreat
open Go.RowKit
set_option linter.unusedVariables false

set_option maxHeartbeats 1600000 in
set_option maxRecDepth 100000 in
theorem orders_walk (a0 : Option Addr) (len0 cap0 : Nat) (z0 : List Int) (a1 : Option Addr) (len1 cap1 : Nat) (z1 : List Int) (w : World) (w0 : IsRow .i64 w a0 len0 cap0 z0) (w1 : IsRow .i64 w a1 len1 cap1 z1) :
    Calls Tryz.prog 7 #[.slice a0 len0 cap0, .slice a1 len1 cap1] w fun e w' => e = .returned (.bool true) ∧ Below w.heap.size w w' := by
  obtain ⟨xs, rfl, hr, hl, -⟩ := rd_of_row w0
  obtain ⟨os, rfl, hr', hl', -⟩ := rd_of_row w1
  have hcap : xs.length ≤ cap0 := row_cap w0
  unfold maxLen at hl hl'
  by_cases hbig : 1073741824 < xs.length
  · go_enter Tryz.func7, Tryz.ntmps7
    go_wp2
    go_ret
    exact ⟨rfl, Below.refl _ _⟩
  · by_cases hbig' : 1073741824 < os.length
    · go_enter Tryz.func7, Tryz.ntmps7
      go_wp2
      go_ret
      exact ⟨rfl, Below.refl _ _⟩
    · go_enter Tryz.func7, Tryz.ntmps7
      go_wp2_with fail
      refine (lent_any a0 cap0 xs _ hr (by omega)).mono ?_
      rintro e v1 ⟨rfl, ho, hb, hsz⟩
      have hr1' := hr'.below hb
      go_wp2_with fail
      refine (lent_any a1 cap1 os _ hr1' (by omega)).mono ?_
      rintro e v2 ⟨rfl, ho', hb2, hsz2⟩
      have ho2 : Own v2 w.heap.size (xs ++ [77, 77]) := ho.below hb2 hsz
      have hb02 : Below w.heap.size w v2 := hb.trans (hb2.mono hb.size)
      have hro : Rd v2 (some ⟨w.heap.size, 0, none⟩) xs := by simpa using ho2.rd.take xs.length
      have hro' : Rd v2 (some ⟨v1.heap.size, 0, none⟩) os := by simpa using ho'.rd.take os.length
      clear ho hr1' hb2
      go_wp2_with fail
      refine (checkOrder_any _ _ _ _ xs os _ hro hro' (by omega) (by omega) (by omega)).mono ?_
      rintro e v3 ⟨y, rfl, hy, q3, hv3⟩
      have HY := Hid.mk' hy
      have ho3 : Own v3 w.heap.size (xs ++ [77, 77]) := by rw [hv3]; exact ho2
      have ho3' : Own v3 v1.heap.size (os ++ [77, 77]) := by rw [hv3]; exact ho'
      have hb03 : Below w.heap.size w v3 := by rw [hv3]; exact below_drewN hb02 q3
      clear hy hv3 ho2 ho' hb02 hro hro'
      have hr3 := hr.below hb03
      have hr3' := hr'.below hb03
      have hlt3 := ho3'.lt
      go_wp2_with fail
      refine (refCheckOrder_any _ _ _ _ xs os _ hr3 hr3' (by omega) (by omega) hcap).mono ?_
      rintro e v4 ⟨z, rfl, hz, hb4⟩
      have hyz : y = z := Bool.eq_iff_iff.2 (HY.out.trans hz.symm)
      subst hyz
      have ho4 : Own v4 w.heap.size (xs ++ [77, 77]) := ho3.below hb4 ho3.lt
      have ho4' : Own v4 v1.heap.size (os ++ [77, 77]) := ho3'.below hb4 ho3'.lt
      have hb04 : Below w.heap.size w v4 := hb03.trans (hb4.mono hb03.size)
      have hr4 := hr.below hb04
      clear hz HY ho3 ho3' hb03 hr3 hr3' hb4
      go_wp2_with fail
      refine (whole_any _ _ _ xs _ ho4 hr4 (by omega)).mono ?_
      rintro e v5 ⟨rfl, q5, hv5⟩
      have ho5' : Own v5 v1.heap.size (os ++ [77, 77]) := by rw [hv5]; exact ho4'
      have hb05 : Below w.heap.size w v5 := by rw [hv5]; exact below_drewN hb04 q5
      have hr5' := hr'.below hb05
      clear hv5 ho4 ho4' hb04 hr4
      go_wp2_with fail
      refine (whole_any _ _ _ os _ ho5' hr5' (by omega)).mono ?_
      rintro e v6 ⟨rfl, q6, rfl⟩
      go_wp2
      go_ret
      exact ⟨rfl, below_drewN hb05 q6⟩

end Go.Proofs.YtdhehffdddbmbabGreat

/-! ## WRanked -/

namespace Go.Proofs.YtdhehffdddbmbabGreat
open Go.RowKit
set_option linter.unusedVariables false

set_option maxHeartbeats 1600000 in
set_option maxRecDepth 100000 in
theorem ranked_walk (a0 : Option Addr) (len0 cap0 : Nat) (z0 : List Int) (a1 : Int) (a2 : Int) (w : World) (w0 : IsRow .i64 w a0 len0 cap0 z0) (w1 : (Lit.int .i64 a1).wf = true) (w2 : (Lit.int .i64 a2).wf = true) :
    Calls Tryz.prog 8 #[.slice a0 len0 cap0, .int .i64 a1, .int .i64 a2] w fun e w' => e = .returned (.bool true) ∧ Below w.heap.size w w' := by
  obtain ⟨xs, rfl, hr, hl, -⟩ := rd_of_row w0
  have hcap : xs.length ≤ cap0 := row_cap w0
  unfold maxLen at hl
  by_cases hbig : 1073741824 < xs.length
  · go_enter Tryz.func8, Tryz.ntmps8
    go_wp2
    go_ret
    exact ⟨rfl, Below.refl _ _⟩
  · have hml : xs.length ≤ maxLen := by unfold maxLen; omega
    by_cases hs : scanE xs a1 = 0
    · have HE := Hid.mk' hs
      clear hs
      by_cases hh : a2 < 0
      · go_enter Tryz.func8, Tryz.ntmps8
        go_wp2_with fail
        refine (lent_any a0 cap0 xs _ hr (by omega)).mono ?_
        rintro e v1 ⟨rfl, ho, hb, hsz⟩
        have hro : Rd v1 (some ⟨w.heap.size, 0, none⟩) xs := by simpa using ho.rd.take xs.length
        go_wp2_with fail
        refine (ranksOpt_any _ _ xs a1 a2 _ hro hml HE.out hh).mono ?_
        rintro e v2 ⟨rfl, hb2⟩
        have ho2 : Own v2 w.heap.size (xs ++ [77, 77]) := ho.below hb2 hsz
        have hb02 : Below w.heap.size w v2 := hb.trans (hb2.mono hb.size)
        have hr2 := hr.below hb02
        clear hro ho hb2
        go_wp2_with fail
        refine (refScan_any _ _ xs a1 _ hr2 hml).mono ?_
        rintro e v3 ⟨rfl, rfl⟩
        rw [HE.out]
        go_wp2_with fail
        refine (whole_any _ _ _ xs _ ho2 hr2 (by omega)).mono ?_
        rintro e v4 ⟨rfl, q4, rfl⟩
        have hnil := eql_nil none 0 0
        go_wp2
        go_ret
        exact ⟨rfl, below_drewN hb02 q4⟩
      · obtain ⟨h, rfl⟩ : ∃ h : Nat, a2 = h := ⟨a2.toNat, by omega⟩
        have HRL := Hid.mk' (ranks_length xs h)
        go_enter Tryz.func8, Tryz.ntmps8
        go_wp2_with fail
        refine (lent_any a0 cap0 xs _ hr (by omega)).mono ?_
        rintro e v1 ⟨rfl, ho, hb, hsz⟩
        have hro : Rd v1 (some ⟨w.heap.size, 0, none⟩) xs := by simpa using ho.rd.take xs.length
        go_wp2_with fail
        refine (ranksOk_any _ _ xs a1 h _ hro (by omega) HE.out).mono ?_
        rintro e v2 ⟨r, rfl, hown, hb2⟩
        have ho2 : Own v2 w.heap.size (xs ++ [77, 77]) := ho.below hb2 hsz
        have hb02 : Below w.heap.size w v2 := hb.trans (hb2.mono hb.size)
        have hr2 := hr.below hb02
        obtain ⟨A, cR, rfl, hrR, -, -, -⟩ := owns_slice hown
        have hfr := FreeV.of_owns hown
        have HOB := Hid.mk' (owns_block hown)
        have hs2 := hb2.size
        have HB12 := Hid.mk' hb2
        clear hro ho hown hb2
        go_wp2_with fail
        refine (refScan_any _ _ xs a1 _ hr2 hml).mono ?_
        rintro e v3 ⟨rfl, rfl⟩
        rw [HE.out]
        go_wp2_with fail
        refine (whole_any _ _ _ xs _ ho2 hr2 (by omega)).mono ?_
        rintro e v4 ⟨rfl, q4, hv4⟩
        have ho4 : Own v4 w.heap.size (xs ++ [77, 77]) := by rw [hv4]; exact ho2
        have hrR4 : Rd v4 A (ranks xs h) := by rw [hv4]; exact hrR
        have hfr4 : FreeV v4 (.slice A xs.length cR) := by rw [hv4]; exact hfr
        have hb04 : Below w.heap.size w v4 := by rw [hv4]; exact below_drewN hb02 q4
        have hs4 : v1.heap.size ≤ v4.heap.size := by rw [hv4]; exact hs2
        have hr4 := hr.below hb04
        clear hv4 ho2 hr2 hrR hfr hb02 hs2
        go_wp2_with fail
        refine (refRanks_any _ _ xs h _ hr4 (by omega) hcap).mono ?_
        rintro e v5 ⟨rfl, hwant, hb5⟩
        have ho5 := ho4.below hb5 ho4.lt
        have hrR5 := hrR4.below hb5
        have hfr5 := hfr4.below hb5
        have hb05 : Below w.heap.size w v5 := hb04.trans (hb5.mono hb04.size)
        have hs5 : v1.heap.size ≤ v5.heap.size := Nat.le_trans hs4 hb5.size
        clear ho4 hrR4 hfr4 hb04 hr4 hb5 hs4
        go_wp2_with fail
        refine (same_eq _ _ _ _ _ _ (ranks xs h) _ hrR5 hwant.rd (by rw [HRL.out]; exact hml) HRL.out HRL.out).mono ?_
        rintro e v6 ⟨rfl, q6, hv6⟩
        have ho6 : Own v6 w.heap.size (xs ++ [77, 77]) := by rw [hv6]; exact ho5
        have hfr6 : FreeV v6 (.slice A xs.length cR) := by rw [hv6]; exact hfr5
        have hb06 : Below w.heap.size w v6 := by rw [hv6]; exact below_drewN hb05 q6
        have hs6 : v1.heap.size ≤ v6.heap.size := by rw [hv6]; exact hs5
        clear hv6 ho5 hrR5 hfr5 hb05 hwant hs5
        go_wp2_with fail
        refine (mine_any v1.heap.size _ _ _ hs6 hfr6 (.inl rfl) HOB.out (fun k hk => by simp [Value.ownBlock] at hk) (by cases A <;> simp [Value.ownBlock])).mono ?_
        rintro e v7 ⟨rfl, hb7, -⟩
        have ho7 : Own v7 w.heap.size (xs ++ [77, 77]) := ho6.below hb7 hsz
        have hb07 : Below w.heap.size w v7 := hb06.trans (hb7.mono hb.size)
        have hr7 := hr.below hb07
        clear ho6 hb06 hb7 hfr6
        go_wp2_with fail
        refine (whole_any _ _ _ xs _ ho7 hr7 (by omega)).mono ?_
        rintro e v8 ⟨rfl, q8, rfl⟩
        go_wp2
        go_ret
        exact ⟨rfl, below_drewN hb07 q8⟩
    · have HE := Hid.mk' hs
      have hbs : (scanE xs a1 != 0) = true := by simpa using hs
      have hbs' : (scanE xs a1 == 0) = false := by simpa using hs
      clear hs
      go_enter Tryz.func8, Tryz.ntmps8
      go_wp2_with fail
      refine (lent_any a0 cap0 xs _ hr (by omega)).mono ?_
      rintro e v1 ⟨rfl, ho, hb, hsz⟩
      have hro : Rd v1 (some ⟨w.heap.size, 0, none⟩) xs := by simpa using ho.rd.take xs.length
      go_wp2_with fail
      refine (ranksErr_any _ _ xs a1 a2 _ hro hml HE.out).mono ?_
      rintro e v2 ⟨rfl, hb2⟩
      have ho2 : Own v2 w.heap.size (xs ++ [77, 77]) := ho.below hb2 hsz
      have hb02 : Below w.heap.size w v2 := hb.trans (hb2.mono hb.size)
      have hr2 := hr.below hb02
      clear hro ho hb2
      go_wp2_with fail
      refine (refScan_any _ _ xs a1 _ hr2 hml).mono ?_
      rintro e v3 ⟨rfl, rfl⟩
      go_wp2_with fail
      refine (whole_any _ _ _ xs _ ho2 hr2 (by omega)).mono ?_
      rintro e v4 ⟨rfl, q4, rfl⟩
      have hnil := eql_nil none 0 0
      go_wp2
      go_ret
      exact ⟨rfl, below_drewN hb02 q4⟩

end Go.Proofs.YtdhehffdddbmbabGreat
