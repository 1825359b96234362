/-
  BuiltLaw: the statement's own 'work'; what Build must answer.
-/
import Derived.Test.YtdhehffdddbmbaaLaw
import Derived.Test.YtdhehffdddbmbaaMine
import Derived.Test.YtdhehffdddbmbaaRefShared
import Derived.Test.YtdhehffdddbmbaaRefNames2
import Derived.Deep.RegionHeld3
namespace Go.Proofs.Ytdhehffdddbmbaa
open Go.RowKit

/-- P10, P13, P15. -/
def wk (xs L : List Int) (way : Int) : Int := if way = 0 then rounds xs else if way = 1 then (levels xs : Int) else ((turnsTo xs L xs.length).length : Int)

set_option maxHeartbeats 800000 in
theorem work_any (a : Option Addr) (cap : Nat) (xs : List Int) (way : Int) (w : World) (hr : Rd w a xs) (hl : xs.length ≤ 1073741823) (hcap : xs.length ≤ cap) (hcap' : cap ≤ 9223372036854775807) :
    Calls Try.prog 58 #[.slice a xs.length cap, .int .i64 way] w fun e w' => ∃ L, Ord xs L ∧ e = .returned (.int .i64 (wk xs L way)) ∧ Below w.heap.size w w' := by
  by_cases h0 : way = 0
  · obtain ⟨L, hL⟩ := ord_ex xs
    have HL := Hid.mk' hL
    have HW : Hid (wk xs L way = rounds xs) := by unfold wk Hid; rw [if_pos h0]
    have hb : (way == 0) = true := by simp [h0]
    clear h0 hL
    go_enter Try.func58, Try.ntmps58
    go_wp2_with fail
    refine (rounds_any _ _ xs _ hr (by omega) hcap).mono ?_
    rintro e w1 ⟨rfl, hb1⟩
    go_wp2
    go_ret
    exact ⟨L, HL.out, ret_int HW.out.symm, hb1⟩
  · by_cases h1 : way = 1
    · obtain ⟨L, hL⟩ := ord_ex xs
      have HL := Hid.mk' hL
      have HW : Hid (wk xs L way = levels xs) := by unfold wk Hid; rw [if_neg h0, if_pos h1]
      have hb0 : (way == 0) = false := by simp [h0]
      have hb : (way == 1) = true := by simp [h1]
      clear h0 h1 hL
      go_enter Try.func58, Try.ntmps58
      go_wp2_with fail
      refine (levels_any _ _ xs _ hr hl hcap hcap').mono ?_
      rintro e w1 ⟨rfl, hb1⟩
      go_wp2
      go_ret
      exact ⟨L, HL.out, ret_int HW.out.symm, hb1⟩
    · have HW : Hid (∀ L, wk xs L way = (turnsTo xs L xs.length).length) := fun L => by unfold wk; rw [if_neg h0, if_neg h1]
      have hb0 : (way == 0) = false := by simp [h0]
      have hb : (way == 1) = false := by simp [h1]
      clear h0 h1
      go_enter Try.func58, Try.ntmps58
      go_wp2_with fail
      refine (refTurns_any _ _ xs _ hr hl hcap hcap').mono ?_
      rintro e w1 ⟨r, L, hL, rfl, hown, hb1⟩
      obtain ⟨A, cL, rfl, hrL, hLn, hnc, hcm⟩ := owns_slice hown
      have HL := Hid.mk' hL
      clear hL hown hLn
      go_wp2
      go_ret
      exact ⟨L, HL.out, ret_int (by rw [HW.out]), hb1⟩

/-- What Build's answer is, where there is no error: behind the pointer the order, what is shared, the work; two lists that share nothing. -/
structure AnswerZ (w w' : World) (gp : Nat) (v v' : Value) (xs L : List Int) (z : Int) : Prop where
  ord : Ord xs L
  at0 : w'.cell? ⟨gp, 0, none⟩ = some v
  at1 : w'.cell? ⟨gp, 1, none⟩ = some v'
  at2 : w'.cell? ⟨gp, 2, none⟩ = some (.int .i64 z)
  own : w'.ownsRow w.heap.size 3 1 v xs.length (L.map (Value.int .i64))
  own' : w'.ownsRow w.heap.size 3 1 v' xs.length ((shared xs L).map (Value.int .i64))
  ptr : w.heap.size ≤ gp ∧ gp < w'.heap.size
  apart : v.ownBlock = none ∨ v.ownBlock ≠ v'.ownBlock
  apartP : some gp ≠ v.ownBlock ∧ some gp ≠ v'.ownBlock
  below : Below w.heap.size w w'

/-- With the work of the way. -/
abbrev Answer (w w' : World) (gp : Nat) (v v' : Value) (xs L : List Int) (way : Int) : Prop := AnswerZ w w' gp v v' xs L (wk xs L way)

def BuildErr : Prop := ∀ (a : Option Addr) (cap : Nat) (xs : List Int) (k way bY : Int) (c : Bool) (w : World), Rd w a xs → xs.length ≤ cap → xs.length ≤ 1073741824 → cap ≤ 9223372036854775807 → scanE xs k ≠ 0 →
    Calls Try.prog 57 #[.slice a xs.length cap, .int .i64 k, .int .i64 way, .int .i64 bY, .bool c] w fun e w' => e = .returned (.tuple #[.pointer none, .int .i64 (scanE xs k)]) ∧ Below w.heap.size w w'
def BuildOpt : Prop := ∀ (a : Option Addr) (cap : Nat) (xs : List Int) (k way bY : Int) (c : Bool) (w : World), Rd w a xs → xs.length ≤ cap → cap ≤ 9223372036854775807 → scanE xs k = 0 → (way < 0 ∨ 2 < way ∨ bY < 0 ∨ 1 < bY) →
    Calls Try.prog 57 #[.slice a xs.length cap, .int .i64 k, .int .i64 way, .int .i64 bY, .bool c] w fun e w' => e = .returned (.tuple #[.pointer none, .int .i64 4]) ∧ Below w.heap.size w w'
def BuildOk (way : Int) : Prop := ∀ (a : Option Addr) (cap : Nat) (xs : List Int) (k bY : Int) (c : Bool) (w : World), Rd w a xs → xs.length ≤ cap → cap ≤ 9223372036854775807 → scanE xs k = 0 → 0 ≤ bY → bY ≤ 1 →
    Calls Try.prog 57 #[.slice a xs.length cap, .int .i64 k, .int .i64 way, .int .i64 bY, .bool c] w fun e w' => ∃ gp v v' L, e = .returned (.tuple #[.pointer (some ⟨gp, 0, none⟩), .int .i64 0]) ∧ Answer w w' gp v v' xs L way
/-- Build without an error, whatever its work was. -/
def BuildAny (way : Int) : Prop := ∀ (a : Option Addr) (cap : Nat) (xs : List Int) (k bY : Int) (c : Bool) (w : World), Rd w a xs → xs.length ≤ cap → cap ≤ 9223372036854775807 → scanE xs k = 0 → 0 ≤ bY → bY ≤ 1 →
    Calls Try.prog 57 #[.slice a xs.length cap, .int .i64 k, .int .i64 way, .int .i64 bY, .bool c] w fun e w' => ∃ gp v v' L z, e = .returned (.tuple #[.pointer (some ⟨gp, 0, none⟩), .int .i64 0]) ∧ AnswerZ w w' gp v v' xs L z
theorem BuildOk.any {way : Int} (h : BuildOk way) : BuildAny way := by
  intro a cap xs k bY c w hr hcap hcap' hs h1 h2
  refine (h a cap xs k bY c w hr hcap hcap' hs h1 h2).mono ?_
  rintro e w' ⟨gp, v, v', L, rfl, hA⟩
  exact ⟨gp, v, v', L, _, rfl, hA⟩

set_option maxHeartbeats 3200000 in
set_option maxRecDepth 100000 in
theorem builtErr_any (he : BuildErr) (a : Option Addr) (cap : Nat) (xs : List Int) (k way bY : Int) (c : Bool) (w : World) (hr : Rd w a xs) (hl : xs.length ≤ 1073741824) (hs : scanE xs k ≠ 0) :
    Calls Try.prog 31 #[.slice a xs.length cap, .int .i64 k, .int .i64 way, .int .i64 bY, .bool c] w fun e w' => e = .returned (.bool true) ∧ Below w.heap.size w w' := by
  have hml : xs.length ≤ maxLen := by unfold maxLen; omega
  have HE := Hid.mk' hs
  have hbs : (scanE xs k != 0) = true := by simpa using hs
  have hbs' : (scanE xs k == 0) = false := by simpa using hs
  clear hs
  go_enter Try.func31, Try.ntmps31
  go_wp2_with fail
  refine (lent_any a cap xs _ hr hl).mono ?_
  rintro e v1 ⟨rfl, ho, hb, hsz⟩
  have hro : Rd v1 (some ⟨w.heap.size, 0, none⟩) xs := by simpa using ho.rd.take xs.length
  go_wp2_with fail
  refine (he _ _ xs k way bY c _ hro (by omega) hl (by omega) HE.out).mono ?_
  rintro e v2 ⟨rfl, hb2⟩
  have ho2 : Own v2 w.heap.size (xs ++ [77, 77]) := ho.below hb2 hsz
  have hb02 : Below w.heap.size w v2 := hb.trans (hb2.mono hb.size)
  have hr2 := hr.below hb02
  clear hro ho hb2
  go_wp2_with fail
  refine (refScan_any _ _ xs k _ hr2 hml).mono ?_
  rintro e v3 ⟨rfl, rfl⟩
  go_wp2_with fail
  refine (whole_any _ _ _ xs _ ho2 hr2 hl).mono ?_
  rintro e v4 ⟨rfl, q4, rfl⟩
  go_wp2
  go_ret
  exact ⟨rfl, below_drewN hb02 q4⟩

set_option maxHeartbeats 3200000 in
set_option maxRecDepth 100000 in
theorem builtOpt_any (he : BuildOpt) (a : Option Addr) (cap : Nat) (xs : List Int) (k way bY : Int) (c : Bool) (w : World) (hr : Rd w a xs) (hs : scanE xs k = 0) (hopt : way < 0 ∨ 2 < way ∨ bY < 0 ∨ 1 < bY) :
    Calls Try.prog 31 #[.slice a xs.length cap, .int .i64 k, .int .i64 way, .int .i64 bY, .bool c] w fun e w' => e = .returned (.bool true) ∧ Below w.heap.size w w' := by
  have hl := (scan_zero hs).1
  have hml : xs.length ≤ maxLen := by unfold maxLen; omega
  have HE := Hid.mk' hs
  have HO := Hid.mk' hopt
  clear hs
  by_cases h1 : way < 0
  · clear hopt
    go_enter Try.func31, Try.ntmps31
    go_wp2_with fail
    refine (lent_any a cap xs _ hr (by omega)).mono ?_
    rintro e v1 ⟨rfl, ho, hb, hsz⟩
    have hro : Rd v1 (some ⟨w.heap.size, 0, none⟩) xs := by simpa using ho.rd.take xs.length
    go_wp2_with fail
    refine (he _ _ xs k way bY c _ hro (by omega) (by omega) HE.out HO.out).mono ?_
    rintro e v2 ⟨rfl, hb2⟩
    have ho2 : Own v2 w.heap.size (xs ++ [77, 77]) := ho.below hb2 hsz
    have hb02 : Below w.heap.size w v2 := hb.trans (hb2.mono hb.size)
    have hr2 := hr.below hb02
    clear hro ho hb2
    go_wp2_with fail
    refine (refScan_any _ _ xs k _ hr2 hml).mono ?_
    rintro e v3 ⟨rfl, rfl⟩
    rw [HE.out]
    go_wp2_with fail
    refine (whole_any _ _ _ xs _ ho2 hr2 (by omega)).mono ?_
    rintro e v4 ⟨rfl, q4, rfl⟩
    go_wp2
    go_ret
    exact ⟨rfl, below_drewN hb02 q4⟩
  · by_cases h2 : 2 < way
    · clear hopt
      go_enter Try.func31, Try.ntmps31
      go_wp2_with fail
      refine (lent_any a cap xs _ hr (by omega)).mono ?_
      rintro e v1 ⟨rfl, ho, hb, hsz⟩
      have hro : Rd v1 (some ⟨w.heap.size, 0, none⟩) xs := by simpa using ho.rd.take xs.length
      go_wp2_with fail
      refine (he _ _ xs k way bY c _ hro (by omega) (by omega) HE.out HO.out).mono ?_
      rintro e v2 ⟨rfl, hb2⟩
      have ho2 : Own v2 w.heap.size (xs ++ [77, 77]) := ho.below hb2 hsz
      have hb02 : Below w.heap.size w v2 := hb.trans (hb2.mono hb.size)
      have hr2 := hr.below hb02
      clear hro ho hb2
      go_wp2_with fail
      refine (refScan_any _ _ xs k _ hr2 hml).mono ?_
      rintro e v3 ⟨rfl, rfl⟩
      rw [HE.out]
      go_wp2_with fail
      refine (whole_any _ _ _ xs _ ho2 hr2 (by omega)).mono ?_
      rintro e v4 ⟨rfl, q4, rfl⟩
      go_wp2
      go_ret
      exact ⟨rfl, below_drewN hb02 q4⟩
    · by_cases h3 : bY < 0
      · clear hopt
        go_enter Try.func31, Try.ntmps31
        go_wp2_with fail
        refine (lent_any a cap xs _ hr (by omega)).mono ?_
        rintro e v1 ⟨rfl, ho, hb, hsz⟩
        have hro : Rd v1 (some ⟨w.heap.size, 0, none⟩) xs := by simpa using ho.rd.take xs.length
        go_wp2_with fail
        refine (he _ _ xs k way bY c _ hro (by omega) (by omega) HE.out HO.out).mono ?_
        rintro e v2 ⟨rfl, hb2⟩
        have ho2 : Own v2 w.heap.size (xs ++ [77, 77]) := ho.below hb2 hsz
        have hb02 : Below w.heap.size w v2 := hb.trans (hb2.mono hb.size)
        have hr2 := hr.below hb02
        clear hro ho hb2
        go_wp2_with fail
        refine (refScan_any _ _ xs k _ hr2 hml).mono ?_
        rintro e v3 ⟨rfl, rfl⟩
        rw [HE.out]
        go_wp2_with fail
        refine (whole_any _ _ _ xs _ ho2 hr2 (by omega)).mono ?_
        rintro e v4 ⟨rfl, q4, rfl⟩
        go_wp2
        go_ret
        exact ⟨rfl, below_drewN hb02 q4⟩
      · have h4 : 1 < bY := by omega
        clear hopt
        go_enter Try.func31, Try.ntmps31
        go_wp2_with fail
        refine (lent_any a cap xs _ hr (by omega)).mono ?_
        rintro e v1 ⟨rfl, ho, hb, hsz⟩
        have hro : Rd v1 (some ⟨w.heap.size, 0, none⟩) xs := by simpa using ho.rd.take xs.length
        go_wp2_with fail
        refine (he _ _ xs k way bY c _ hro (by omega) (by omega) HE.out HO.out).mono ?_
        rintro e v2 ⟨rfl, hb2⟩
        have ho2 : Own v2 w.heap.size (xs ++ [77, 77]) := ho.below hb2 hsz
        have hb02 : Below w.heap.size w v2 := hb.trans (hb2.mono hb.size)
        have hr2 := hr.below hb02
        clear hro ho hb2
        go_wp2_with fail
        refine (refScan_any _ _ xs k _ hr2 hml).mono ?_
        rintro e v3 ⟨rfl, rfl⟩
        rw [HE.out]
        go_wp2_with fail
        refine (whole_any _ _ _ xs _ ho2 hr2 (by omega)).mono ?_
        rintro e v4 ⟨rfl, q4, rfl⟩
        go_wp2
        go_ret
        exact ⟨rfl, below_drewN hb02 q4⟩

theorem cell_only {w w' : World} {v v' : Value} {g o q : Nat} {u : Value} (h : ∀ k, k < (w.drewN q).heap.size → some k ≠ v.ownBlock → some k ≠ v'.ownBlock → w'.heap[k]? = (w.drewN q).heap[k]?) (hg : g < w.heap.size) (hn : some g ≠ v.ownBlock ∧ some g ≠ v'.ownBlock) (hc : w.cell? ⟨g, o, none⟩ = some u) : w'.cell? ⟨g, o, none⟩ = some u :=
  (World.cell?_of_block (w := w) (a := ⟨g, o, none⟩) (h g hg hn.1 hn.2)).trans hc

/-- What the statement keeps in sight while it asks on. -/
structure Kp (w v : World) (gp n : Nat) (A S : Option Addr) (cA cS : Nat) (xs L : List Int) (z : Int) : Prop where
  lent : Own v w.heap.size (xs ++ [77, 77])
  at0 : v.cell? ⟨gp, 0, none⟩ = some (.slice A xs.length cA)
  at1 : v.cell? ⟨gp, 1, none⟩ = some (.slice S xs.length cS)
  at2 : v.cell? ⟨gp, 2, none⟩ = some (.int .i64 z)
  rd : Rd v A L
  rd' : Rd v S (shared xs L)
  free : FreeV v (.slice A xs.length cA)
  free' : FreeV v (.slice S xs.length cS)
  below : Below w.heap.size w v
  size : n ≤ v.heap.size
  ptr : gp < v.heap.size
theorem Kp.next {w v v' : World} {gp n : Nat} {A S : Option Addr} {cA cS : Nat} {xs L : List Int} {z : Int} (h : Kp w v gp n A S cA cS xs L z) (hb : Below v.heap.size v v') : Kp w v' gp n A S cA cS xs L z :=
  ⟨h.lent.below hb h.lent.lt, (hb.cell (p := ⟨gp, 0, none⟩) h.ptr).trans h.at0, (hb.cell (p := ⟨gp, 1, none⟩) h.ptr).trans h.at1, (hb.cell (p := ⟨gp, 2, none⟩) h.ptr).trans h.at2, h.rd.below hb, h.rd'.below hb, h.free.below hb, h.free'.below hb,
    h.below.trans (hb.mono h.below.size), Nat.le_trans h.size hb.size, Nat.lt_of_lt_of_le h.ptr hb.size⟩
theorem Kp.drewN {w v : World} {gp n : Nat} {A S : Option Addr} {cA cS : Nat} {xs L : List Int} {z : Int} (h : Kp w v gp n A S cA cS xs L z) (q : Nat) : Kp w (v.drewN q) gp n A S cA cS xs L z :=
  h.next (below_drewN (Below.refl _ _) q)

set_option maxHeartbeats 3200000 in
set_option maxRecDepth 100000 in
theorem builtOk_any (way : Int) (he : BuildOk way) (hw1 : 0 ≤ way) (hw2 : way ≤ 2) (a : Option Addr) (cap : Nat) (xs : List Int) (k bY : Int) (c : Bool) (w : World) (hr : Rd w a xs) (hcap : xs.length ≤ cap) (hcap' : cap ≤ 9223372036854775807) (hs : scanE xs k = 0) (hb1 : 0 ≤ bY) (hb2 : bY ≤ 1) :
    Calls Try.prog 31 #[.slice a xs.length cap, .int .i64 k, .int .i64 way, .int .i64 bY, .bool c] w fun e w' => e = .returned (.bool true) ∧ Below w.heap.size w w' := by
  have hl := (scan_zero hs).1
  have hml : xs.length ≤ maxLen := by unfold maxLen; omega
  have HE := Hid.mk' hs
  have HSL := Hid.mk' (fun L => shared_length xs L)
  clear hs
  go_enter Try.func31, Try.ntmps31
  go_wp2_with fail
  refine (lent_any a cap xs _ hr (by omega)).mono ?_
  rintro e v1 ⟨rfl, ho, hb, hsz⟩
  have hro : Rd v1 (some ⟨w.heap.size, 0, none⟩) xs := by simpa using ho.rd.take xs.length
  go_wp2_with fail
  refine (he _ _ xs k bY c _ hro (by omega) (by omega) HE.out hb1 hb2).mono ?_
  rintro e v2 ⟨gp, vo, vs, L, rfl, hA⟩
  obtain ⟨A, cA, rfl, hrA, hAl, -, -⟩ := owns_slice hA.own
  obtain ⟨S, cS, rfl, hrS, hSl, -, -⟩ := owns_slice hA.own'
  have hfA := FreeV.of_owns hA.own
  have hfS := FreeV.of_owns hA.own'
  have HBA := Hid.mk' (owns_block hA.own)
  have HBS := Hid.mk' (owns_block hA.own')
  have HA := Hid.mk' hA
  have hb02 : Below w.heap.size w v2 := hb.trans (hA.below.mono hb.size)
  have K2 : Kp w v2 gp v1.heap.size A S cA cS xs L (wk xs L way) := ⟨ho.below hA.below hsz, hA.at0, hA.at1, hA.at2, hrA, hrS, hfA, hfS, hb02, hA.below.size, hA.ptr.2⟩
  have hgp := hA.ptr.1
  have HAp := Hid.mk' hA.apart
  have HPp := Hid.mk' hA.apartP
  have HOr := Hid.mk' hA.ord
  have HAl := Hid.mk' hAl
  have HSl := Hid.mk' hSl
  clear hro ho hA HA hAl hSl hrA hrS hfA hfS hb02
  have hr2 := hr.below K2.below
  go_wp2_with fail
  refine (refScan_any _ _ xs k _ hr2 hml).mono ?_
  rintro e v3 ⟨rfl, rfl⟩
  rw [HE.out]
  go_wp2_with fail
  refine (whole_any _ _ _ xs _ K2.lent hr2 (by omega)).mono ?_
  rintro e v4 ⟨rfl, q4, hv4⟩
  have K4 : Kp w v4 gp v1.heap.size A S cA cS xs L (wk xs L way) := by rw [hv4]; exact K2.drewN q4
  have hr4 := hr.below K4.below
  clear hv4 K2 hr2
  go_wp2_with fail
  refine (refOrder_any _ _ xs _ hr4 (by omega) hcap).mono ?_
  rintro e v5 ⟨r5, L5, hL5, rfl, hown5, hb5⟩
  obtain rfl : L = L5 := HOr.out.unique hL5
  obtain ⟨O, cO, rfl, hrO, -, -, -⟩ := owns_slice hown5
  have K5 := K4.next hb5
  have hr5 := hr.below K5.below
  clear hown5 hL5 hb5 K4 hr4
  have hsh := refShared_any a O cap cO xs L v5 hr5 hrO (by omega) (by have := HAl.out; omega) (fun p hp => (HOr.out.2 p).1 hp)
  rw [HAl.out] at hsh
  have HSH := Hid.mk' hsh
  clear hsh
  go_wp2_with fail
  refine HSH.out.mono ?_
  rintro e v6 ⟨rfl, hos, hb6⟩
  have K6 := K5.next hb6
  have hr6 := hr.below K6.below
  have hrO6 := hrO.below hb6
  have hrs6 := hos.rd
  clear K5 hr5 hrO HSH hb6 hos
  go_wp2_with fail
  refine (work_any _ _ xs way _ hr6 (by omega) hcap hcap').mono ?_
  rintro e v7 ⟨L7, hL7, rfl, hb7⟩
  obtain rfl : L = L7 := HOr.out.unique hL7
  have K7 := K6.next hb7
  have hr7 := hr.below K7.below
  have hrO7 := hrO6.below hb7
  have hrs7 := hrs6.below hb7
  clear hL7 K6 hr6 hrO6 hrs6 hb7
  generalize hz : wk xs L way = z at K7 ⊢
  have HZ := Hid.mk' hz
  clear hz
  have hc0 := K7.at0
  go_wp2_with fail
  refine (same_eq _ _ _ _ _ _ L _ K7.rd hrO7 (by rw [HAl.out]; exact hml) HAl.out HAl.out).mono ?_
  rintro e v8 ⟨rfl, q8, hv8⟩
  have K8 : Kp w v8 gp v1.heap.size A S cA cS xs L z := by rw [hv8]; exact K7.drewN q8
  have hrs8 : Rd v8 (some ⟨v5.heap.size, 0, none⟩) (shared xs L) := by rw [hv8]; exact hrs7
  clear hv8 K7 hr7 hrO7 hrs7 hc0
  have hc1 := K8.at1
  go_wp2_with fail
  refine (same_eq _ _ _ _ _ _ (shared xs L) _ K8.rd' hrs8 (by rw [HSL.out, HAl.out]; exact hml) HSl.out HSl.out).mono ?_
  rintro e v9 ⟨rfl, q9, hv9⟩
  have K9 : Kp w v9 gp v1.heap.size A S cA cS xs L z := by rw [hv9]; exact K8.drewN q9
  clear hv9 K8 hrs8 hc1
  have HM := Hid.mk' (fun q => mine_any v1.heap.size _ _ (v9.drewN q) K9.size (K9.free.drewN q) (K9.free'.drewN q) HBA.out HBS.out HAp.out)
  have hc0 := K9.at0
  have hc1 := K9.at1
  have hc2 := K9.at2
  have HK9 := Hid.mk' K9
  clear K9
  go_wp2
  go_region_held3 (fun w' => w'.cell? ⟨gp, 0, none⟩ = some (.slice A xs.length cA) ∧ w'.cell? ⟨gp, 1, none⟩ = some (.slice S xs.length cS)) (go_keep) ((go_at_call 24; refine (HM.out _).mono ?_; rintro e v10 ⟨rfl, hb10, hon⟩; have hk0 := cell_only hon HK9.out.ptr HPp.out hc0; have hk1 := cell_only hon HK9.out.ptr HPp.out hc1; have hk2 := cell_only hon HK9.out.ptr HPp.out hc2))
  have ho10 : Own v10 w.heap.size (xs ++ [77, 77]) := (HK9.out.lent.drewN _).below hb10 hsz
  have hb010 : Below w.heap.size w v10 := (below_drewN HK9.out.below _).trans (hb10.mono hb.size)
  have hr10 := hr.below hb010
  clear hb10 hon hk0 hk1 hc0 hc1 hc2 HM
  go_wp2_with fail
  refine (whole_any _ _ _ xs _ ho10 hr10 (by omega)).mono ?_
  rintro e v11 ⟨rfl, q11, rfl⟩
  go_wp2
  go_ret
  exact ⟨ret_bool (by simp), below_drewN hb010 q11⟩

set_option maxHeartbeats 800000 in
theorem builtBig_any (a : Option Addr) (cap : Nat) (xs : List Int) (k way bY : Int) (c : Bool) (w : World) (hl : 1073741824 < xs.length) (hm : xs.length ≤ 9223372036854775807) :
    Calls Try.prog 31 #[.slice a xs.length cap, .int .i64 k, .int .i64 way, .int .i64 bY, .bool c] w fun e w' => e = .returned (.bool true) ∧ w' = w := by
  go_enter Try.func31, Try.ntmps31
  go_wp2
  go_ret
  exact ⟨rfl, rfl⟩

end Go.Proofs.Ytdhehffdddbmbaa
