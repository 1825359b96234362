/-
  WTwo: for All: the walks of Befores, Tables, Reduces, Bends as theorems.
-/
import Derived.Test.YtdhehffdddbmbabGreatRow
import Derived.Test.YtdhehffdddbmbabGreatLaw
import Derived.Test.YtdhehffdddbmbabGreatLawKeep
import Derived.Test.YtdhehffdddbmbabGreatRest
import Derived.ProofKit
/-! ## WBefores -/

namespace Go.Proofs.YtdhehffdddbmbabGreat
open Go.RowKit
set_option linter.unusedVariables false

set_option maxHeartbeats 1600000 in
set_option maxRecDepth 100000 in
theorem befores_walk (a0 : Option Addr) (len0 cap0 : Nat) (z0 : List Int) (a1 : Int) (w : World) (w0 : IsRow .i64 w a0 len0 cap0 z0) (w1 : (Lit.int .i64 a1).wf = true) :
    Calls Tryz.prog 10 #[.slice a0 len0 cap0, .int .i64 a1] w fun e w' => e = .returned (.bool true) ∧ Below w.heap.size w w' := by
  obtain ⟨xs, rfl, hr, hl, -⟩ := rd_of_row w0
  have hcap : xs.length ≤ cap0 := row_cap w0
  have hcap' : cap0 ≤ 9223372036854775807 := row_max w0
  unfold maxLen at hl
  by_cases hbig : 1073741824 < xs.length
  · go_enter Tryz.func10, Tryz.ntmps10
    go_wp2
    go_ret
    exact ⟨rfl, Below.refl _ _⟩
  · have hml : xs.length ≤ maxLen := by unfold maxLen; omega
    by_cases hs : scanE xs a1 = 0
    · have HE := Hid.mk' hs
      have h96 := (scan_zero hs).1
      clear hs
      go_enter Tryz.func10, Tryz.ntmps10
      go_wp2_with fail
      refine (lent_any a0 cap0 xs _ hr (by omega)).mono ?_
      rintro e v1 ⟨rfl, ho, hb, hsz⟩
      have hro : Rd v1 (some ⟨w.heap.size, 0, none⟩) xs := by simpa using ho.rd.take xs.length
      go_wp2_with fail
      refine (beforeOk_any _ _ xs a1 _ hro (by omega) (by omega) HE.out).mono ?_
      rintro e u1 ⟨r, L, bs, hL, hbs, rfl, hown, hb1⟩
      have hro1 := hro.below hb1
      go_wp2_with fail
      refine (longestOk_any _ _ xs a1 _ hro1 (by omega) (by omega) HE.out).mono ?_
      rintro e v2 ⟨r', L', bs', hL', hbs', rfl, hown', hb2⟩
      obtain rfl : L = L' := hL.unique hL'
      obtain rfl : bs = bs' := hbs.unique hL hbs'
      have hownB := owns_below hown hb2
      have hownL := ownsRow_base hown' hb1.size
      obtain ⟨A, cR, rfl, hrR, hRl, -, -⟩ := owns_slice hownB
      obtain ⟨S, cS, rfl, hrS, hSl, -, -⟩ := owns_slice hownL
      have HOB := Hid.mk' (owns_block hownB)
      have HOB' := Hid.mk' (owns_block hownL)
      have HAp : Hid ((Value.slice A xs.length cR).ownBlock = none ∨ (Value.slice A xs.length cR).ownBlock ≠ (Value.slice S xs.length cS).ownBlock) := by
        cases hq : (Value.slice A xs.length cR).ownBlock with
        | none => exact .inl rfl
        | some kk =>
          refine .inr (fun h => ?_)
          have h1 := owns_lt hown kk hq
          have h2 := owns_block hown' kk h.symm
          omega
      have hb12 : Below v1.heap.size v1 v2 := hb1.trans (hb2.mono hb1.size)
      have K : K2 w v2 v1.heap.size A S xs.length xs.length cR cS xs bs (longest xs bs) := ⟨ho.below hb12 hsz, hrR, hrS, FreeV.of_owns hownB, FreeV.of_owns hownL, hb.trans (hb12.mono hb.size), hb12.size⟩
      have HLB := Hid.mk' (And.intro hL hbs)
      have HRl := Hid.mk' hRl
      have HSl := Hid.mk' hSl
      have hr2 := hr.below K.below
      clear hro ho hown hown' hownB hownL hb2 hb1 hb12 hrR hRl hrS hSl hL hbs hL' hbs' hro1
      go_wp2_with fail
      refine (refScan_any _ _ xs a1 _ hr2 hml).mono ?_
      rintro e v3 ⟨rfl, rfl⟩
      rw [HE.out]
      go_wp2_with fail
      refine (whole_any _ _ _ xs _ K.lent hr2 (by omega)).mono ?_
      rintro e v4 ⟨rfl, q4, hv4⟩
      replace K := K.of hv4
      clear hv4 hr2
      have hr4 := hr.below K.below
      go_wp2_with fail
      refine (refBefore_any _ _ xs _ hr4 (by omega) hcap).mono ?_
      rintro e v5 ⟨g5, L5, bs5, hg5, hL5, hbs5, rfl, hown5, hb5⟩
      obtain rfl : L = L5 := HLB.out.1.unique hL5
      obtain rfl : bs = bs5 := HLB.out.2.unique HLB.out.1 hbs5
      have hrO := hown5.rd
      replace K := K.next hb5
      clear hr4 hown5 hb5 hL5 hbs5
      have hr5 := hr.below K.below
      go_wp2_with fail
      refine (refLongest_any _ _ xs _ hr5 (by omega) hcap).mono ?_
      rintro e v6 ⟨g6, L6, bs6, hg6, hL6, hbs6, rfl, hown6, hb6⟩
      obtain rfl : L = L6 := HLB.out.1.unique hL6
      obtain rfl : bs = bs6 := HLB.out.2.unique HLB.out.1 hbs6
      have hrN := hown6.rd
      have hrO6 := hrO.below hb6
      replace K := K.next hb6
      clear hr5 hown6 hb6 hrO hL6 hbs6
      go_wp2_with fail
      refine (same_eq _ _ _ _ _ _ bs _ K.rd hrO6 (by rw [HRl.out]; exact hml) HRl.out HRl.out).mono ?_
      rintro e v7 ⟨rfl, q7, hv7⟩
      replace K := K.of hv7
      have hrN7 : Rd v7 (some ⟨g6, 0, none⟩) (longest xs bs) := by rw [hv7]; exact hrN
      clear hv7 hrO6 hrN
      go_wp2_with fail
      refine (same_eq _ _ _ _ _ _ (longest xs bs) _ K.rd' hrN7 (by rw [HSl.out]; exact hml) HSl.out HSl.out).mono ?_
      rintro e v8 ⟨rfl, q8, hv8⟩
      replace K := K.of hv8
      clear hv8 hrN7
      go_wp2_with fail
      refine (mine_any v1.heap.size _ _ _ K.size K.free K.free' HOB.out HOB'.out HAp.out).mono ?_
      rintro e v9 ⟨rfl, hb9, -⟩
      have ho9 : Own v9 w.heap.size (xs ++ [77, 77]) := K.lent.below hb9 hsz
      have hb09 : Below w.heap.size w v9 := K.below.trans (hb9.mono hb.size)
      have hr9 := hr.below hb09
      clear K hb9
      go_wp2_with fail
      refine (whole_any _ _ _ xs _ ho9 hr9 (by omega)).mono ?_
      rintro e v10 ⟨rfl, q10, rfl⟩
      go_wp2
      go_ret
      exact ⟨rfl, below_drewN hb09 q10⟩
    · have HE := Hid.mk' hs
      have hbs : (scanE xs a1 != 0) = true := by simpa using hs
      clear hs
      go_enter Tryz.func10, Tryz.ntmps10
      go_wp2_with fail
      refine (lent_any a0 cap0 xs _ hr (by omega)).mono ?_
      rintro e v1 ⟨rfl, ho, hb, hsz⟩
      have hro : Rd v1 (some ⟨w.heap.size, 0, none⟩) xs := by simpa using ho.rd.take xs.length
      go_wp2_with fail
      refine (beforeErr_any _ _ xs a1 _ hro hml HE.out).mono ?_
      rintro e u1 ⟨rfl, hb1⟩
      have hro1 := hro.below hb1
      go_wp2_with fail
      refine (longestErr_any _ _ xs a1 _ hro1 hml HE.out).mono ?_
      rintro e v2 ⟨rfl, hb2'⟩
      have hb2 : Below v1.heap.size v1 v2 := hb1.trans (hb2'.mono hb1.size)
      have ho2 : Own v2 w.heap.size (xs ++ [77, 77]) := ho.below hb2 hsz
      have hb02 : Below w.heap.size w v2 := hb.trans (hb2.mono hb.size)
      have hr2 := hr.below hb02
      clear hro ho hb2 hb1 hb2' hro1
      go_wp2_with fail
      refine (refScan_any _ _ xs a1 _ hr2 hml).mono ?_
      rintro e v3 ⟨rfl, rfl⟩
      go_wp2_with fail
      refine (whole_any _ _ _ xs _ ho2 hr2 (by omega)).mono ?_
      rintro e v4 ⟨rfl, q4, rfl⟩
      have hnil := eql_nil none 0 0
      go_wp2
      go_ret
      exact ⟨rfl, below_drewN hb02 q4⟩

end Go.Proofs.YtdhehffdddbmbabGreat

/-! ## WTables -/

namespace Go.Proofs.YtdhehffdddbmbabGreat
open Go.RowKit
set_option linter.unusedVariables false

set_option maxHeartbeats 1600000 in
set_option maxRecDepth 100000 in
theorem tables_walk (a0 : Option Addr) (len0 cap0 : Nat) (z0 : List Int) (a1 : Option Addr) (len1 cap1 : Nat) (z1 : List Int) (a2 : Option Addr) (len2 cap2 : Nat) (z2 : List Int) (w : World) (w0 : IsRow .i64 w a0 len0 cap0 z0) (w1 : IsRow .i64 w a1 len1 cap1 z1) (w2 : IsRow .i64 w a2 len2 cap2 z2) :
    Calls Tryz.prog 11 #[.slice a0 len0 cap0, .slice a1 len1 cap1, .slice a2 len2 cap2] w fun e w' => e = .returned (.bool true) ∧ Below w.heap.size w w' := by
  obtain ⟨xs, rfl, hr, hl, -⟩ := rd_of_row w0
  obtain ⟨os, rfl, hr', hl', -⟩ := rd_of_row w1
  obtain ⟨ss, rfl, hr2, hl2, -⟩ := rd_of_row w2
  have hcap : xs.length ≤ cap0 := row_cap w0
  unfold maxLen at hl hl' hl2
  by_cases hbig : 1073741824 < xs.length
  · go_enter Tryz.func11, Tryz.ntmps11
    go_wp2
    go_ret
    exact ⟨rfl, Below.refl _ _⟩
  · by_cases hbig' : 1073741824 < os.length
    · go_enter Tryz.func11, Tryz.ntmps11
      go_wp2
      go_ret
      exact ⟨rfl, Below.refl _ _⟩
    · by_cases hbig2 : 1073741824 < ss.length
      · go_enter Tryz.func11, Tryz.ntmps11
        go_wp2
        go_ret
        exact ⟨rfl, Below.refl _ _⟩
      · have HSL := Hid.mk' (shared_length xs os)
        go_enter Tryz.func11, Tryz.ntmps11
        go_wp2_with fail
        refine (lent_any a0 cap0 xs _ hr (by omega)).mono ?_
        rintro e v1 ⟨rfl, ho, hb, hsz⟩
        have hr1' := hr'.below hb
        go_wp2_with fail
        refine (lent_any a1 cap1 os _ hr1' (by omega)).mono ?_
        rintro e v2 ⟨rfl, ho', hb2, hsz2⟩
        have hbw2 : Below w.heap.size w v2 := hb.trans (hb2.mono hb.size)
        have hr22 := hr2.below hbw2
        go_wp2_with fail
        refine (lent_any a2 cap2 ss _ hr22 (by omega)).mono ?_
        rintro e v3 ⟨rfl, hoS, hb3, hsz3⟩
        have K : L3 w v1 v2 v3 xs os ss := ⟨(ho.below hb2 hsz).below hb3 (by have := hb2.size; omega), ho'.below hb3 hsz2, hoS, hbw2.trans (hb3.mono hbw2.size)⟩
        have hro : Rd v3 (some ⟨w.heap.size, 0, none⟩) xs := by simpa using K.lent.rd.take xs.length
        have hro' : Rd v3 (some ⟨v1.heap.size, 0, none⟩) os := by simpa using K.lent'.rd.take os.length
        have hroS : Rd v3 (some ⟨v2.heap.size, 0, none⟩) ss := by simpa using K.lentS.rd.take ss.length
        clear ho ho' hoS hr1' hr22 hb2 hb3 hbw2
        go_wp2_with fail
        refine (checkShared_any _ _ _ _ _ _ xs os ss _ hro hro' hroS (by omega) (by omega) (by omega) (by omega)).mono ?_
        rintro e v4 ⟨y, rfl, hy, hb4⟩
        have HY := Hid.mk' hy
        replace K := K.next hb4
        clear hy hb4 hro hro' hroS
        have hr4 := hr.below K.below
        have hr4' := hr'.below K.below
        go_wp2_with fail
        refine (refCheckOrder_any _ _ _ _ xs os _ hr4 hr4' (by omega) (by omega) hcap).mono ?_
        rintro e v5 ⟨z, rfl, hz, hb5⟩
        replace K := K.next hb5
        clear hb5 hr4 hr4'
        have hr5 := hr.below K.below
        have hr5' := hr'.below K.below
        have hr52 := hr2.below K.below
        cases z with
        | false =>
          have hy0 : y = false := by
            cases y with
            | false => rfl
            | true => have := hz.2 (HY.out.1 rfl).1; cases this
          subst hy0
          clear hz HY
          go_wp2_with fail
          refine (whole_any _ _ _ xs _ K.lent hr5 (by omega)).mono ?_
          rintro e v6 ⟨rfl, q6, hv6⟩
          replace K := K.of hv6
          clear hv6 hr5 hr5' hr52
          have hr6' := hr'.below K.below
          go_wp2_with fail
          refine (whole_any _ _ _ os _ K.lent' hr6' (by omega)).mono ?_
          rintro e v7 ⟨rfl, q7, hv7⟩
          replace K := K.of hv7
          clear hv7 hr6'
          have hr72 := hr2.below K.below
          go_wp2_with fail
          refine (whole_any _ _ _ ss _ K.lentS hr72 (by omega)).mono ?_
          rintro e v8 ⟨rfl, q8, rfl⟩
          go_wp2
          go_ret
          exact ⟨rfl, below_drewN K.below q8⟩
        | true =>
          have HT := Hid.mk' (hz.1 rfl)
          clear hz
          have HI := Hid.mk' (refShared_any a0 a1 cap0 cap1 xs os v5 hr5 hr5' (by omega) (by omega) (fun p hp => (HT.out.2.2.2 p).1 hp))
          go_wp2_with fail
          refine HI.out.mono ?_
          rintro e v6 ⟨rfl, hos, hb6⟩
          replace K := K.next hb6
          have hrs := hos.rd
          clear hos hb6 hr5 hr5' hr52 HI
          have hr62 := hr2.below K.below
          go_wp2_with fail
          refine (same_lens _ _ _ _ _ (shared xs os) ss _ hrs hr62 (by rw [HSL.out]; unfold maxLen; omega) (by unfold maxLen; omega) HSL.out).mono ?_
          rintro e v7 ⟨rfl, q7, hv7⟩
          replace K := K.of hv7
          have hyz : y = (shared xs os == ss) := by
            rw [Bool.eq_iff_iff, HY.out, beq_iff_eq]
            exact ⟨fun h => h.2, fun h => ⟨HT.out, h⟩⟩
          rw [← hyz]
          clear hyz hv7 hrs hr62 HY
          have hr7 := hr.below K.below
          go_wp2_with fail
          refine (whole_any _ _ _ xs _ K.lent hr7 (by omega)).mono ?_
          rintro e v8 ⟨rfl, q8, hv8⟩
          replace K := K.of hv8
          clear hv8 hr7
          have hr8' := hr'.below K.below
          go_wp2_with fail
          refine (whole_any _ _ _ os _ K.lent' hr8' (by omega)).mono ?_
          rintro e v9 ⟨rfl, q9, hv9⟩
          replace K := K.of hv9
          clear hv9 hr8'
          have hr92 := hr2.below K.below
          go_wp2_with fail
          refine (whole_any _ _ _ ss _ K.lentS hr92 (by omega)).mono ?_
          rintro e v10 ⟨rfl, q10, rfl⟩
          go_wp2
          go_ret
          exact ⟨rfl, below_drewN K.below q10⟩

end Go.Proofs.YtdhehffdddbmbabGreat

/-! ## WReduces -/

namespace Go.Proofs.YtdhehffdddbmbabGreat
open Go.RowKit
set_option linter.unusedVariables false

set_option maxHeartbeats 1600000 in
set_option maxRecDepth 100000 in
theorem reduces_walk (a0 : Option Addr) (len0 cap0 : Nat) (z0 : List Int) (a1 : Int) (w : World) (w0 : IsRow .i64 w a0 len0 cap0 z0) (w1 : (Lit.int .i64 a1).wf = true) :
    Calls Tryz.prog 12 #[.slice a0 len0 cap0, .int .i64 a1] w fun e w' => e = .returned (.bool true) ∧ Below w.heap.size w w' := by
  obtain ⟨xs, rfl, hr, hl, -⟩ := rd_of_row w0
  have hcap : xs.length ≤ cap0 := row_cap w0
  have hcap' : cap0 ≤ 9223372036854775807 := row_max w0
  unfold maxLen at hl
  by_cases hbig : 1073741824 < xs.length
  · go_enter Tryz.func12, Tryz.ntmps12
    go_wp2
    go_ret
    exact ⟨rfl, Below.refl _ _⟩
  · have hml : xs.length ≤ maxLen := by unfold maxLen; omega
    by_cases hs : scanE xs a1 = 0
    · have HE := Hid.mk' hs
      have h96 := (scan_zero hs).1
      have hmk := marks_length_le xs
      have HNL := Hid.mk' (names_length xs)
      clear hs
      go_enter Tryz.func12, Tryz.ntmps12
      go_wp2_with fail
      refine (lent_any a0 cap0 xs _ hr (by omega)).mono ?_
      rintro e v1 ⟨rfl, ho, hb, hsz⟩
      have hro : Rd v1 (some ⟨w.heap.size, 0, none⟩) xs := by simpa using ho.rd.take xs.length
      go_wp2_with fail
      refine (reduceOk_any _ _ xs a1 _ hro (by omega) (by omega) HE.out).mono ?_
      rintro e v2 ⟨r, r', rfl, hown, hown', hap, hb2⟩
      obtain ⟨A, cR, rfl, hrR, hRl, -, -⟩ := owns_slice hown
      obtain ⟨S, cS, rfl, hrS, hSl, -, -⟩ := owns_slice hown'
      have HOB := Hid.mk' (owns_block hown)
      have HOB' := Hid.mk' (owns_block hown')
      have HAp := Hid.mk' hap
      have K : K2 w v2 v1.heap.size A S (marks xs).length (names xs).length cR cS xs (marks xs) (names xs) := ⟨ho.below hb2 hsz, hrR, hrS, FreeV.of_owns hown, FreeV.of_owns hown', hb.trans (hb2.mono hb.size), hb2.size⟩
      have hr2 := hr.below K.below
      clear hro ho hown hown' hap hb2 hrR hRl hrS hSl
      go_wp2_with fail
      refine (refScan_any _ _ xs a1 _ hr2 hml).mono ?_
      rintro e v3 ⟨rfl, rfl⟩
      rw [HE.out]
      go_wp2_with fail
      refine (whole_any _ _ _ xs _ K.lent hr2 (by omega)).mono ?_
      rintro e v4 ⟨rfl, q4, hv4⟩
      replace K := K.of hv4
      clear hv4 hr2
      have hr4 := hr.below K.below
      go_wp2_with fail
      refine (refMarks_any _ _ xs _ hr4 (by omega) hcap hcap').mono ?_
      rintro e v5 ⟨r5, rfl, hown5, hb5⟩
      obtain ⟨O, cO, rfl, hrO, hOl, -, -⟩ := owns_slice hown5
      replace K := K.next hb5
      clear hr4 hown5 hb5 hOl
      have hr5 := hr.below K.below
      go_wp2_with fail
      refine (refNames_any _ _ xs _ hr5 (by omega) hcap hcap').mono ?_
      rintro e v6 ⟨g6, hg6, rfl, hown6, hb6⟩
      have hrN := hown6.rd
      have hrO6 := hrO.below hb6
      replace K := K.next hb6
      clear hr5 hown6 hb6 hrO
      go_wp2_with fail
      refine (same_eq _ _ _ _ _ _ (marks xs) _ K.rd hrO6 (by unfold maxLen; omega) rfl rfl).mono ?_
      rintro e v7 ⟨rfl, q7, hv7⟩
      replace K := K.of hv7
      have hrN7 : Rd v7 (some ⟨g6, 0, none⟩) (names xs) := by rw [hv7]; exact hrN
      clear hv7 hrO6 hrN
      go_wp2_with fail
      refine (same_eq _ _ _ _ _ _ (names xs) _ K.rd' hrN7 (by rw [HNL.out]; unfold maxLen; omega) rfl rfl).mono ?_
      rintro e v8 ⟨rfl, q8, hv8⟩
      replace K := K.of hv8
      clear hv8 hrN7
      go_wp2_with fail
      refine (mine_any v1.heap.size _ _ _ K.size K.free K.free' HOB.out HOB'.out HAp.out).mono ?_
      rintro e v9 ⟨rfl, hb9, -⟩
      have ho9 : Own v9 w.heap.size (xs ++ [77, 77]) := K.lent.below hb9 hsz
      have hb09 : Below w.heap.size w v9 := K.below.trans (hb9.mono hb.size)
      have hr9 := hr.below hb09
      clear K hb9
      go_wp2_with fail
      refine (whole_any _ _ _ xs _ ho9 hr9 (by omega)).mono ?_
      rintro e v10 ⟨rfl, q10, rfl⟩
      go_wp2
      go_ret
      exact ⟨rfl, below_drewN hb09 q10⟩
    · have HE := Hid.mk' hs
      have hbs : (scanE xs a1 != 0) = true := by simpa using hs
      clear hs
      go_enter Tryz.func12, Tryz.ntmps12
      go_wp2_with fail
      refine (lent_any a0 cap0 xs _ hr (by omega)).mono ?_
      rintro e v1 ⟨rfl, ho, hb, hsz⟩
      have hro : Rd v1 (some ⟨w.heap.size, 0, none⟩) xs := by simpa using ho.rd.take xs.length
      go_wp2_with fail
      refine (reduceErr_any _ _ xs a1 _ hro hml HE.out).mono ?_
      rintro e v2 ⟨rfl, hb2⟩
      have ho2 : Own v2 w.heap.size (xs ++ [77, 77]) := ho.below hb2 hsz
      have hb02 : Below w.heap.size w v2 := hb.trans (hb2.mono hb.size)
      have hr2 := hr.below hb02
      clear hro ho hb2
      go_wp2_with fail
      refine (refScan_any _ _ xs a1 _ hr2 hml).mono ?_
      rintro e v3 ⟨rfl, rfl⟩
      go_wp2_with fail
      refine (whole_any _ _ _ xs _ ho2 hr2 (by omega)).mono ?_
      rintro e v4 ⟨rfl, q4, rfl⟩
      have hnil := eql_nil none 0 0
      go_wp2
      go_ret
      exact ⟨rfl, below_drewN hb02 q4⟩

end Go.Proofs.YtdhehffdddbmbabGreat

/-! ## WBends -/

namespace Go.Proofs.YtdhehffdddbmbabGreat
open Go.RowKit
set_option linter.unusedVariables false

set_option maxHeartbeats 1600000 in
set_option maxRecDepth 100000 in
theorem bends_walk (a0 : Option Addr) (len0 cap0 : Nat) (z0 : List Int) (a1 : Int) (w : World) (w0 : IsRow .i64 w a0 len0 cap0 z0) (w1 : (Lit.int .i64 a1).wf = true) :
    Calls Tryz.prog 13 #[.slice a0 len0 cap0, .int .i64 a1] w fun e w' => e = .returned (.bool true) ∧ Below w.heap.size w w' := by
  obtain ⟨xs, rfl, hr, hl, -⟩ := rd_of_row w0
  have hcap : xs.length ≤ cap0 := row_cap w0
  have hcap' : cap0 ≤ 9223372036854775807 := row_max w0
  unfold maxLen at hl
  by_cases hbig : 1073741824 < xs.length
  · go_enter Tryz.func13, Tryz.ntmps13
    go_wp2
    go_ret
    exact ⟨rfl, Below.refl _ _⟩
  · have hml : xs.length ≤ maxLen := by unfold maxLen; omega
    by_cases hs : scanE xs a1 = 0
    · have HE := Hid.mk' hs
      have h96 := (scan_zero hs).1
      clear hs
      go_enter Tryz.func13, Tryz.ntmps13
      go_wp2_with fail
      refine (lent_any a0 cap0 xs _ hr (by omega)).mono ?_
      rintro e v1 ⟨rfl, ho, hb, hsz⟩
      have hro : Rd v1 (some ⟨w.heap.size, 0, none⟩) xs := by simpa using ho.rd.take xs.length
      go_wp2_with fail
      refine (turnsOk_any _ _ xs a1 _ hro (by omega) (by omega) HE.out).mono ?_
      rintro e v2 ⟨r, L, hL, rfl, hown, hb2⟩
      obtain ⟨A, cR, rfl, hrR, hRl, -, -⟩ := owns_slice hown
      have HOB := Hid.mk' (owns_block hown)
      have K : K2 w v2 v1.heap.size A none (turnsTo xs L xs.length).length 0 cR 0 xs (turnsTo xs L xs.length) [] := ⟨ho.below hb2 hsz, hrR, Rd.nil _ _, FreeV.of_owns hown, .inl rfl, hb.trans (hb2.mono hb.size), hb2.size⟩
      have HL := Hid.mk' hL
      have htl := turnsTo_length_le xs L xs.length
      have hr2 := hr.below K.below
      clear hro ho hown hb2 hL hrR hRl
      go_wp2_with fail
      refine (refScan_any _ _ xs a1 _ hr2 hml).mono ?_
      rintro e v3 ⟨rfl, rfl⟩
      rw [HE.out]
      go_wp2_with fail
      refine (whole_any _ _ _ xs _ K.lent hr2 (by omega)).mono ?_
      rintro e v4 ⟨rfl, q4, hv4⟩
      replace K := K.of hv4
      clear hv4 hr2
      have hr4 := hr.below K.below
      go_wp2_with fail
      refine (refTurns_any _ _ xs _ hr4 (by omega) hcap hcap').mono ?_
      rintro e v5 ⟨r5, L5, hL5, rfl, hown5, hb5⟩
      obtain rfl : L = L5 := HL.out.unique hL5
      obtain ⟨O, cO, rfl, hrO, hOl, -, -⟩ := owns_slice hown5
      replace K := K.next hb5
      clear hr4 hL5 hown5 hb5 hOl
      go_wp2_with fail
      refine (same_eq _ _ _ _ _ _ (turnsTo xs L xs.length) _ K.rd hrO (by unfold maxLen; omega) rfl rfl).mono ?_
      rintro e v6 ⟨rfl, q6, hv6⟩
      replace K := K.of hv6
      clear hv6 hrO
      go_wp2_with fail
      refine (mine_any v1.heap.size _ _ _ K.size K.free K.free' HOB.out (fun k hk => by simp [Value.ownBlock] at hk) (by cases A <;> simp [Value.ownBlock])).mono ?_
      rintro e v7 ⟨rfl, hb7, -⟩
      have ho7 : Own v7 w.heap.size (xs ++ [77, 77]) := K.lent.below hb7 hsz
      have hb07 : Below w.heap.size w v7 := K.below.trans (hb7.mono hb.size)
      have hr7 := hr.below hb07
      clear K hb7
      go_wp2_with fail
      refine (whole_any _ _ _ xs _ ho7 hr7 (by omega)).mono ?_
      rintro e v8 ⟨rfl, q8, rfl⟩
      go_wp2
      go_ret
      exact ⟨rfl, below_drewN hb07 q8⟩
    · have HE := Hid.mk' hs
      have hbs : (scanE xs a1 != 0) = true := by simpa using hs
      clear hs
      go_enter Tryz.func13, Tryz.ntmps13
      go_wp2_with fail
      refine (lent_any a0 cap0 xs _ hr (by omega)).mono ?_
      rintro e v1 ⟨rfl, ho, hb, hsz⟩
      have hro : Rd v1 (some ⟨w.heap.size, 0, none⟩) xs := by simpa using ho.rd.take xs.length
      go_wp2_with fail
      refine (turnsErr_any _ _ xs a1 _ hro hml HE.out).mono ?_
      rintro e v2 ⟨rfl, hb2⟩
      have ho2 : Own v2 w.heap.size (xs ++ [77, 77]) := ho.below hb2 hsz
      have hb02 : Below w.heap.size w v2 := hb.trans (hb2.mono hb.size)
      have hr2 := hr.below hb02
      clear hro ho hb2
      go_wp2_with fail
      refine (refScan_any _ _ xs a1 _ hr2 hml).mono ?_
      rintro e v3 ⟨rfl, rfl⟩
      go_wp2_with fail
      refine (whole_any _ _ _ xs _ ho2 hr2 (by omega)).mono ?_
      rintro e v4 ⟨rfl, q4, rfl⟩
      have hnil := eql_nil none 0 0
      go_wp2
      go_ret
      exact ⟨rfl, below_drewN hb02 q4⟩

end Go.Proofs.YtdhehffdddbmbabGreat
