/-
  TurnA: P14: the walks of the program's turnsOf, countLesser, Rising, and of Turns.
-/
import Derived.Test.YtdhehffdddbmbaaMTurns
import Derived.Test.YtdhehffdddbmbaaRanks
import Derived.Test.YtdhehffdddbmbaaOrder
import Derived.Test.YtdhehffdddbmbaaKinds
import Derived.Test.YtdhehffdddbmbaaPieces
namespace Go.Proofs.Ytdhehffdddbmbaa
open Go.RowKit

theorem turn_kd {xs : List Int} {n : Nat} (h : n + 1 < xs.length) : isTurn xs n = (decide (kd xs n ≠ 76) && decide (kd xs (n + 1) = 76)) := by
  unfold isTurn
  simp [h]

set_option maxHeartbeats 800000 in
set_option maxRecDepth 100000 in
theorem turnsOf_any (xs : List Int) (s : ByteArray) (w : World) (hl : xs.length ≤ 1073741823) (hsz : s.size = xs.length) (hby : ∀ i (h : i < s.size), (s[i].toNat : Int) = kd xs i) :
    Calls Try.prog 92 #[.string s] w fun e w' => e = .returned (.slice (some ⟨w.heap.size, 0, none⟩) (tp xs).length xs.length) ∧ w'.ownsRow w.heap.size 3 1 (.slice (some ⟨w.heap.size, 0, none⟩) (tp xs).length xs.length) (tp xs).length ((tp xs).map (Value.int .i64)) ∧ Below w.heap.size w w' := by
  obtain ⟨i0, hi, hz0, hz1, hz2⟩ := info_parts Try.info3
  have hml : s.size ≤ maxLen := by unfold maxLen; omega
  have HSZ := Hid.mk' hsz
  have HBY := Hid.mk' hby
  have hsl : s.size ≤ 1073741823 := by omega
  clear hsz hby hl
  go_enter Try.func92, Try.ntmps92
  go_wp2_with (at_make; refine wpList_make_own _ rfl _ _ 22 rfl w.heap.size 3 i0 (.int .i64 0) 1 Try.underlying22 hi hz0 hz1 _ _ _ s.size rfl rfl (by omega) ?b2 hml (Nat.le_refl _) ?_)
  case b2 => rw [hz2]; omega
  intro w0 hown0 hgrow0
  have hb0 : Below w.heap.size w w0 := (Below.refl _ _).grown hgrow0 (Nat.le_refl _) (fun k h => by cases h)
  go_wp2
  go_loopw [3, 4] (fun out i wr => ∃ n : Nat, n ≤ s.size ∧ i = .int .i64 n ∧ out = .slice (some ⟨w.heap.size, 0, none⟩) (tpTo xs n).length s.size ∧ wr.ownsRow w.heap.size 3 1 (.slice (some ⟨w.heap.size, 0, none⟩) (tpTo xs n).length s.size) (tpTo xs n).length ((tpTo xs n).map (Value.int .i64)) ∧ Below w.heap.size w wr) (fun _ i _ => s.size - (intOf i).toNat)
  case atStart => exact ⟨0, Nat.zero_le _, rfl, rfl, hown0, hb0⟩
  case round =>
    clear hown0 hgrow0 hb0
    obtain ⟨n, hn, rfl, rfl, hown, hbr⟩ := hrel
    have hsz := hbr.size
    have hle := tpTo_length_le xs n
    by_cases hlt : n + 1 < s.size
    · have hn0 : n < s.size := by omega
      have hk := HBY.out n hn0
      have hk1 := HBY.out (n + 1) hlt
      have hsucc := tpTo_succ xs n
      have hkd := turn_kd (xs := xs) (n := n) (by have := HSZ.out; omega)
      by_cases ha : kd xs n = 76
      · rw [hkd, if_neg (by simp [ha]), List.append_nil] at hsucc
        have HS := Hid.mk' hsucc
        have hbe : ((s[n].toNat : Int) != 76) = false := by rw [hk, ha]; rfl
        clear hk hk1 hsucc ha hkd
        go_wp2
        go_roundw
        case rel => exact ⟨n + 1, by omega, by go_num, by rw [HS.out], by rw [HS.out]; exact hown, hbr⟩
        case measure => simp [intOf]; omega
      · have hbe : ((s[n].toNat : Int) != 76) = true := by rw [hk]; simpa using ha
        by_cases hb : kd xs (n + 1) = 76
        · rw [hkd, if_pos (by simp [ha, hb])] at hsucc
          have HS := Hid.mk' hsucc
          have hbe1 : ((s[n + 1].toNat : Int) == 76) = true := by rw [hk1, hb]; rfl
          clear hk hk1 hsucc ha hkd hb
          go_wp2_with (at_builtin; refine wpList_append_fits _ rfl _ _ 22 rfl w.heap.size 3 i0 1 Try.underlying22 hi hz1 w.heap.size (tpTo xs n).length s.size _ rfl (hown.alloc _) ⟨wr.heap.size, 0, none⟩ 1 1 [.int .i64 (n : Int)] rfl rfl (by intro t u ht; match t, ht with | 0, ht => simp at ht; subst ht; simp [Addr.add]) (by intro u hu; simp at hu; subst hu; rfl) (by omega) ?_; intro w3 hown3 hgrow3)
          have hn3 : Below w.heap.size w w3 := (hbr.alloc hbr.size _).grown hgrow3 (by simp; omega) (fun k hk => by cases hk; exact Nat.le_refl _)
          have HL : Hid ((tpTo xs (n + 1)).length = (tpTo xs n).length + 1) := by rw [Hid, HS.out]; simp
          clear hown hgrow3 hbr
          go_wp2
          go_roundw
          case rel => exact ⟨n + 1, by omega, by go_num, by rw [HL.out], by rw [HL.out, HS.out, List.map_append]; exact hown3, hn3⟩
          case measure => simp [intOf]; omega
        · rw [hkd, if_neg (by simp [hb]), List.append_nil] at hsucc
          have HS := Hid.mk' hsucc
          have hbe1 : ((s[n + 1].toNat : Int) == 76) = false := by rw [hk1]; simpa using hb
          clear hk hk1 hsucc ha hkd hb
          go_wp2
          go_roundw
          case rel => exact ⟨n + 1, by omega, by go_num, by rw [HS.out], by rw [HS.out]; exact hown, hbr⟩
          case measure => simp [intOf]; omega
    · have HE : Hid (tpTo xs n = tp xs) := tp_last (by have := HSZ.out; omega) (by have := HSZ.out; omega)
      have R := Hid.mk' (And.intro hown hbr)
      clear hown hbr
      go_wp2
      go_ret
      exact ⟨by rw [HE.out, HSZ.out]; rfl, by rw [← HE.out, ← HSZ.out]; exact R.out.1, R.out.2⟩

/-! ### How many turns are lesser -/

set_option maxHeartbeats 800000 in
theorem tcountLesser_any (a a' : Option Addr) (cap cap' len : Nat) (xs ts : List Int) (p : Nat) (w : World) (hr : Rd w a xs) (hr' : Rd w a' ts) (hl : xs.length ≤ 1073741823) (hl' : ts.length ≤ 1073741823) (hcap : xs.length ≤ cap) (hin : ∀ x ∈ ts, 0 ≤ x ∧ x < xs.length) (hp : p < xs.length) (hlen : ts.length = len) (r : Nat) (hv : ts.countP (fun q => lt (xs.drop q.toNat) (xs.drop p)) = r) :
    Calls Try.prog 93 #[.slice a xs.length cap, .slice a' len cap', .int .i64 p] w fun e w' => e = .returned (.int .i64 r) ∧ ∃ q, w' = w.drewN q := by
  subst hlen
  have HIn := Hid.mk' hin
  have HR := Hid.mk' hv
  clear hin hv
  go_enter Try.func93, Try.ntmps93
  go_wp2
  go_loopw [7, 8] (fun k i wr => ∃ n q z : Nat, n ≤ ts.length ∧ z ≤ n ∧ k = .int .i64 z ∧ i = .int .i64 n ∧ Hid (z = cP ts (fun q => lt (xs.drop q.toNat) (xs.drop p)) n) ∧ Hid (wr = w.drewN q)) (fun _ i _ => ts.length - (intOf i).toNat)
  case atStart => exact ⟨0, 0, 0, Nat.zero_le _, Nat.le_refl _, rfl, rfl, by simp [Hid, cP], rfl⟩
  case round =>
    obtain ⟨n, q, z, hn, hz, rfl, rfl, HN, HW⟩ := hrel
    have hr1 : Rd wr a xs := by rw [HW.out]; exact hr
    have hr2 : Rd wr a' ts := by rw [HW.out]; exact hr'
    clear hr hr'
    by_cases hlt : n < ts.length
    · have hA := HIn.out _ (getD_mem hlt)
      obtain ⟨b', off', rfl, hb', hc'⟩ := hr2.at hlt
      have hc1 := hc' n hlt
      obtain ⟨t, ht⟩ : ∃ t : Nat, ts.getD n 0 = t := ⟨(ts.getD n 0).toNat, by omega⟩
      rw [ht] at hc1
      have htx : t < xs.length := by omega
      obtain ⟨b, off, rfl, hb, hc⟩ := hr1.at htx
      have hd1 : Rd wr (some ⟨b, off + t, none⟩) (xs.drop t) := hr1.drop t
      have hd2 : Rd wr (some ⟨b, off + p, none⟩) (xs.drop p) := hr1.drop p
      have HI := Hid.mk' (fun (v : Bool) (hv : lt (xs.drop t) (xs.drop p) = v) (q' : Nat) => lesser_len (some ⟨b, off + t, none⟩) (some ⟨b, off + p, none⟩) (xs.length - t) (xs.length - p) (cap - t) (cap - p) (xs.drop t) (xs.drop p) (wr.drewN q') hd1 hd2 (by simp; omega) (by simp) (by simp) v hv)
      have hP : (fun q : Int => lt (xs.drop q.toNat) (xs.drop p)) (ts.getD n 0) = lt (xs.drop t) (xs.drop p) := by rw [ht]; rfl
      clear hc hc' hA hd1 hd2 hr1 hr2 ht
      cases hv : lt (xs.drop t) (xs.drop p) with
      | true =>
        have HI2 := Hid.mk' (HI.out true hv)
        have HC : Hid (z + 1 = cP ts (fun q => lt (xs.drop q.toNat) (xs.drop p)) (n + 1)) := by rw [Hid, cP_yes hlt (hP.trans hv), ← HN.out]
        clear HI hv hP
        go_wp2
        go_quiet ((go_at_call 72; exact Calls.quiet_of (HI2.out _)))
        go_wp2
        go_roundw
        case rel => exact ⟨n + 1, _, z + 1, by omega, by omega, by go_num, by go_num, HC, by rw [HW.out, World.drewN_drewN]; rfl⟩
        case measure => simp [intOf]; omega
      | false =>
        have HI2 := Hid.mk' (HI.out false hv)
        have HC : Hid (z = cP ts (fun q => lt (xs.drop q.toNat) (xs.drop p)) (n + 1)) := by rw [Hid, cP_no hlt (hP.trans hv), ← HN.out]
        clear HI hv hP
        go_wp2
        go_quiet ((go_at_call 72; exact Calls.quiet_of (HI2.out _)))
        go_wp2
        go_roundw
        case rel => exact ⟨n + 1, _, z, by omega, by omega, by go_num, by go_num, HC, by rw [HW.out, World.drewN_drewN]; rfl⟩
        case measure => simp [intOf]; omega
    · have HF : Hid ((z : Int) = (r : Int)) := by
        rw [Hid, HN.out, cP_all (by omega), HR.out]
      go_wp2
      go_ret
      exact ⟨ret_int HF.out, q, HW.out⟩

/-! ### The turns in the order of their suffixes -/

set_option maxHeartbeats 1600000 in
set_option maxRecDepth 100000 in
theorem rising_any (a : Option Addr) (cap : Nat) (xs : List Int) (w : World) (hr : Rd w a xs) (hl : xs.length ≤ 1073741822) (hcap : xs.length ≤ cap) :
    Calls Try.prog 66 #[.slice a xs.length cap] w fun e w' => ∃ g L, Ord xs L ∧ e = .returned (.slice (some ⟨g, 0, none⟩) (oT xs L).length (oT xs L).length) ∧ w.heap.size ≤ g ∧ Own w' g (oT xs L) ∧ Below w.heap.size w w' := by
  obtain ⟨i0, hi, hz0, hz1, hz2⟩ := info_parts Try.info3
  obtain ⟨L, hL⟩ := ord_ex xs
  have HOr := Hid.mk' hL
  have HOl := Hid.mk' (oT_length hL)
  clear hL
  obtain ⟨hsz, hby⟩ := kinds_string xs
  have HST := Hid.mk' (And.intro hsz hby)
  have htl := tp_length_le xs
  have hml : (tp xs).length ≤ maxLen := by unfold maxLen; omega
  clear hsz hby
  go_enter Try.func66, Try.ntmps66
  go_wp2_with fail
  refine (textsKinds_any a cap xs _ hr (by omega)).mono ?_
  rintro e w1 ⟨rfl, hb1⟩
  generalize strOfNums (kindsL xs) = s at HST
  go_wp2_with fail
  refine (turnsOf_any xs s _ (by omega) HST.out.1 HST.out.2).mono ?_
  rintro e w2 ⟨rfl, hown, hb2⟩
  have HT2 := Hid.mk' (rd_of_owns hown)
  have hg2 := (ownsRow_cells hown).1
  have HB2 := Hid.mk' (hb1.trans (hb2.mono hb1.size))
  have hs1 := hb1.size
  clear hown hb1 hb2
  go_wp2_with (at_make; refine wpList_make_full _ rfl _ _ 22 rfl w2.heap.size 3 i0 (.int .i64 0) 1 Try.underlying22 hi hz0 hz1 _ _ _ _ (tp xs).length rfl rfl (by omega) (by omega) ?b2 hml (Nat.le_refl _) ?_)
  case b2 => rw [hz2]; omega
  intro w3 hown0 hgrow0
  obtain ⟨ho, hb3, hs3⟩ := made_row hown0 hgrow0
  clear hown0 hgrow0
  go_wp2
  go_loopw [6] (fun i wr => ∃ (k : Nat) (ds : List Int), k ≤ (tp xs).length ∧ i = .int .i64 k ∧ Hid (Fill (tp xs).length (tK xs) (fun i => (tp xs).getD i 0) ds k) ∧ Hid (Own wr w2.heap.size ds) ∧ Hid (Below w2.heap.size w2 wr)) (fun i _ => (tp xs).length - (intOf i).toNat)
  case atStart => exact ⟨0, _, Nat.zero_le _, rfl, Fill.start _ _ _, ho, hb3⟩
  case round =>
    clear ho hb3 hs3
    obtain ⟨k, ds, hk, rfl, HF, HO, HB⟩ := hrel
    have hs2 : w.heap.size ≤ w2.heap.size := by omega
    have HBW := Hid.mk' (HB2.out.trans (HB.out.mono hs2))
    by_cases hlt : k < (tp xs).length
    · obtain ⟨p, hp, hpx, -⟩ := tp_at hlt
      have hrx := hr.below HBW.out
      have hrt := HT2.out.below HB.out
      have hct := hrt.cell hlt
      rw [hp, Nat.zero_add] at hct
      obtain ⟨r, hrk⟩ : ∃ r, tk xs p = r := ⟨_, rfl⟩
      have hrl : r < (tp xs).length := by rw [← hrk]; exact tK_lt HOr.out hlt hp
      have HS := Hid.mk' (HF.out.step (tK_plc HOr.out) hlt (p := r) (z := (p : Int)) (by rw [tK_at hlt hp, hrk]) hp.symm)
      obtain ⟨u, hcell⟩ : ∃ u, wr.cell? ⟨w2.heap.size, r, none⟩ = some u := ⟨_, HO.out.cell (by rw [HF.out.1]; exact hrl)⟩
      have hfz := HO.out.frozen r
      have HC := Hid.mk' (tcountLesser_any a _ cap xs.length _ xs (tp xs) p wr hrx hrt (by omega) (by omega) hcap (fun x hx => (mem_tp.1 hx).1) hpx rfl r hrk)
      have n1 : w1.heap.size ≠ w2.heap.size := by omega
      have n2 : w2.heap.size ≠ w1.heap.size := by omega
      clear hp hrk hrx hrt
      go_wp2_with fail
      refine HC.out.mono ?_
      rintro e w4 ⟨rfl, q, rfl⟩
      go_wp2
      go_roundw
      case rel => exact ⟨k + 1, _, by omega, by go_num, HS, (HO.out.drewN _).set r _, (below_drewN HB.out _).setCell (Nat.le_refl _) _⟩
      case measure => simp [intOf]; omega
    · have HE := Hid.mk' (tK_done HOr.out HF.out (by omega))
      go_wp2
      go_ret
      exact ⟨_, L, HOr.out, by rw [HOl.out]; rfl, hs2, by rw [← HE.out]; exact HO.out, HBW.out⟩

/-! ### Turns -/

theorem turnsErr_any (a : Option Addr) (cap : Nat) (xs : List Int) (k : Int) (w : World) (hr : Rd w a xs) (hl : xs.length ≤ maxLen) (hs : scanE xs k ≠ 0) :
    Calls Try.prog 41 #[.slice a xs.length cap, .int .i64 k] w fun e w' => e = .returned (.tuple #[.slice none 0 0, .int .i64 (scanE xs k)]) ∧ Below w.heap.size w w' := by
  have hb : (scanE xs k != 0) = true := by simpa using hs
  clear hs
  go_enter Try.func41, Try.ntmps41
  go_wp2_with (go_at_call 44; refine (fault_any a cap xs k _ hr hl).mono ?_; rintro e w' ⟨rfl, rfl⟩)
  go_ret2
  exact ⟨rfl, Below.refl _ _⟩

set_option maxHeartbeats 800000 in
theorem turnsOk_any (a : Option Addr) (cap : Nat) (xs : List Int) (k : Int) (w : World) (hr : Rd w a xs) (hcap : xs.length ≤ cap) (_hcap' : cap ≤ 9223372036854775807) (hs : scanE xs k = 0) :
    Calls Try.prog 41 #[.slice a xs.length cap, .int .i64 k] w fun e w' => ∃ v L, Ord xs L ∧ e = .returned (.tuple #[v, .int .i64 0]) ∧ w'.ownsRow w.heap.size 3 1 v (turnsTo xs L xs.length).length ((turnsTo xs L xs.length).map (Value.int .i64)) ∧ Below w.heap.size w w' := by
  have h96 := (scan_zero hs).1
  have hl : xs.length ≤ maxLen := by unfold maxLen; omega
  have hb : (scanE xs k != 0) = false := by simpa using hs
  clear hs
  go_enter Try.func41, Try.ntmps41
  go_wp2_with (go_at_call 44; refine (fault_any a cap xs k _ hr hl).mono ?_; rintro e w' ⟨rfl, rfl⟩)
  refine (rising_any _ _ xs _ hr (by omega) hcap).mono ?_
  rintro e w1 ⟨g, L, hL, rfl, hg, ho, hb1⟩
  have HL := Hid.mk' hL
  have HN : Hid ((oT xs L).length ≤ maxLen) := by have := turnsTo_length_le xs L xs.length; unfold Hid oT maxLen; omega
  clear hL
  go_wp2
  go_ret2
  exact ⟨_, L, HL.out, rfl, owns_of_own ho hg rfl HN.out, hb1⟩

end Go.Proofs.Ytdhehffdddbmbaa
