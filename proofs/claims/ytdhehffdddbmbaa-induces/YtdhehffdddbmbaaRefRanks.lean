/-
  RefRanks: the walks of the document's own Ranks, different, Rounds.
-/
import Derived.Test.YtdhehffdddbmbaaRefOrder
import Derived.Test.YtdhehffdddbmbaaMBase
namespace Go.Proofs.Ytdhehffdddbmbaa
open Go.RowKit

theorem ret_slice {A : Option Addr} {n m c : Nat} (h : n = m) : Ending.returned (.slice A n c) = .returned (.slice A m c) := by rw [h]

theorem fst_length (xs : List Int) (i h : Nat) : (fst xs i h).length = min h (xs.length - i) := by simp [fst]

set_option maxHeartbeats 400000 in
theorem first_any (a : Option Addr) (cap : Nat) (xs : List Int) (i h : Nat) (w : World) (hr : Rd w a xs) (hl : xs.length ≤ 1073741824) (hcap : xs.length ≤ cap) (hi : i < xs.length) :
    Calls Try.prog 56 #[.slice a xs.length cap, .int .i64 i, .int .i64 h] w fun e w' => ∃ A c, e = .returned (.slice A (fst xs i h).length c) ∧ Rd w A (fst xs i h) ∧ w' = w := by
  obtain ⟨b, off, rfl, hb, hc⟩ := hr.at hi
  clear hc
  have hd := hr.drop i
  have HD := Hid.mk' (hd.take h)
  have HL := Hid.mk' (fst_length xs i h)
  clear hd hr
  by_cases hh : xs.length - i < h
  · go_enter Try.func56, Try.ntmps56
    go_wp2
    go_ret
    exact ⟨_, _, ret_slice (by rw [HL.out]; omega), HD.out, rfl⟩
  · go_enter Try.func56, Try.ntmps56
    go_wp2
    go_ret
    exact ⟨_, _, ret_slice (by rw [HL.out]; omega), HD.out, rfl⟩

theorem less_lens (a a' : Option Addr) (cap cap' : Nat) (xs ys : List Int) (w : World) (hr : Rd w a xs) (hr' : Rd w a' ys) (hl : xs.length ≤ 1073741824) (v : Bool) (hv : lt xs ys = v) :
    Calls Try.prog 52 #[.slice a xs.length cap, .slice a' ys.length cap'] w fun e w' => e = .returned (.bool v) ∧ ∃ q, w' = w.drewN q :=
  less_len a a' _ _ cap cap' xs ys w hr hr' hl rfl rfl v hv

/-- How many of the first j places have lesser beginnings. -/
def rkTo (xs : List Int) (h i j : Nat) : Nat := (List.range j).countP (fun k => lt (fst xs k h) (fst xs i h))
theorem rkTo_yes {xs : List Int} {h i j : Nat} (e : lt (fst xs j h) (fst xs i h) = true) : rkTo xs h i (j + 1) = rkTo xs h i j + 1 := by
  unfold rkTo; rw [countP_range_succ, if_pos e]
theorem rkTo_no {xs : List Int} {h i j : Nat} (e : lt (fst xs j h) (fst xs i h) = false) : rkTo xs h i (j + 1) = rkTo xs h i j := by
  unfold rkTo; rw [countP_range_succ, if_neg (by rw [e]; simp)]; rfl
theorem rkTo_le (xs : List Int) (h i j : Nat) : rkTo xs h i j ≤ j := countP_range_le _ _
theorem rkTo_all (xs : List Int) (h i : Nat) : rkTo xs h i xs.length = rk xs h i := rfl
theorem fst_le (xs : List Int) (i h : Nat) : (fst xs i h).length ≤ xs.length := by rw [fst_length]; omega

set_option maxHeartbeats 1600000 in
set_option maxRecDepth 100000 in
theorem refRanks_any (a : Option Addr) (cap : Nat) (xs : List Int) (h : Nat) (w : World) (hr : Rd w a xs) (hl : xs.length ≤ 1073741824) (hcap : xs.length ≤ cap) :
    Calls Try.prog 30 #[.slice a xs.length cap, .int .i64 h] w fun e w' => e = .returned (.slice (some ⟨w.heap.size, 0, none⟩) xs.length xs.length) ∧ Own w' w.heap.size (ranks xs h) ∧ Below w.heap.size w w' := by
  obtain ⟨i0, hi, hz0, hz1, hz2⟩ := info_parts Try.info3
  have hml : xs.length ≤ maxLen := by unfold maxLen; omega
  go_enter Try.func30, Try.ntmps30
  go_wp2_with (at_make; refine wpList_make_full _ rfl _ _ 22 rfl w.heap.size 3 i0 (.int .i64 0) 1 Try.underlying22 hi hz0 hz1 _ _ _ _ xs.length rfl rfl (by omega) (by omega) ?b2 hml (Nat.le_refl _) ?_)
  case b2 => rw [hz2]; omega
  intro w2 hown0 hgrow0
  obtain ⟨ho, hb2, hs2⟩ := made_row hown0 hgrow0
  clear hown0 hgrow0
  go_wp2
  go_loopw [6] (fun i wr => ∃ (n : Nat) (ds : List Int), n ≤ xs.length ∧ i = .int .i64 n ∧ Hid (Cnt (fun i => (rk xs h i : Int)) xs.length ds n 0) ∧ Hid (Own wr w.heap.size ds) ∧ Hid (Below w.heap.size w wr)) (fun i _ => xs.length - (intOf i).toNat)
  case atStart => exact ⟨0, _, Nat.zero_le _, rfl, Cnt.start _ _, ho, hb2⟩
  case round =>
    clear ho hb2 hs2
    obtain ⟨n, ds, hn, rfl, HC, HO, HB⟩ := hrel
    by_cases hlt : n < xs.length
    · go_wp2
      go_loopw [7] (fun j wr => ∃ (m : Nat) (ds : List Int), m ≤ xs.length ∧ j = .int .i64 m ∧ Hid (Cnt (fun i => (rk xs h i : Int)) xs.length ds n (rkTo xs h n m)) ∧ Hid (Own wr w.heap.size ds) ∧ Hid (Below w.heap.size w wr)) (fun j _ => xs.length - (intOf j).toNat)
      case atStart => exact ⟨0, ds, Nat.zero_le _, rfl, HC, HO, HB⟩
      case round =>
        clear HC HO HB ds
        obtain ⟨m, ds, hm, rfl, HC, HO, HB⟩ := hrel
        by_cases hml2 : m < xs.length
        · have hrx := hr.below HB.out
          have hrl := rkTo_le xs h n m
          go_wp2_with fail
          refine (first_any _ _ xs m h _ hrx hl hcap hml2).mono ?_
          rintro e w3 ⟨A, c, rfl, hA, rfl⟩
          go_wp2_with fail
          refine (first_any _ _ xs n h _ hrx hl hcap hlt).mono ?_
          rintro e w3 ⟨A2, c2, rfl, hA2, rfl⟩
          cases hv : lt (fst xs m h) (fst xs n h) with
          | true =>
            have HV := Hid.mk' hv
            have HR := Hid.mk' (rkTo_yes hv)
            clear hv
            go_wp2_with fail
            refine (less_lens _ _ _ _ _ _ _ hA hA2 (by have := fst_le xs m h; omega) true HV.out).mono ?_
            rintro e w4 ⟨rfl, q, rfl⟩
            have hcell := HO.out.cell (i := n) (by rw [HC.out.1]; exact hlt)
            rw [HC.out.at hlt] at hcell
            have hfz := HO.out.frozen n
            go_wp2
            go_roundw
            case rel => exact ⟨m + 1, ds.set n ((rkTo xs h n m : Int) + 1), by omega, by go_num, by rw [HR.out]; exact HC.out.set _, (HO.out.drewN q).set n _, (below_drewN HB.out q).setCell (Nat.le_refl _) _⟩
            case measure => simp [intOf]; omega
          | false =>
            have HV := Hid.mk' hv
            have HR := Hid.mk' (rkTo_no hv)
            clear hv
            go_wp2_with fail
            refine (less_lens _ _ _ _ _ _ _ hA hA2 (by have := fst_le xs m h; omega) false HV.out).mono ?_
            rintro e w4 ⟨rfl, q, rfl⟩
            go_wp2
            go_roundw
            case rel => exact ⟨m + 1, ds, by omega, by go_num, by rw [HR.out]; exact HC, HO.out.drewN q, below_drewN HB.out q⟩
            case measure => simp [intOf]; omega
        · obtain rfl : m = xs.length := by omega
          have HN := Hid.mk' (HC.out.next (by rw [rkTo_all]))
          go_wp2
          go_roundw
          case rel => exact ⟨n + 1, ds, by omega, by go_num, HN, HO, HB⟩
          case measure => simp [intOf]; omega
    · have HN := Hid.mk' (HC.out.done (by omega))
      go_wp2
      go_ret
      exact ⟨rfl, by rw [show ranks xs h = ds from HN.out.symm]; exact HO.out, HB.out⟩

/-- Are all numbers of a list different? -/
def diff (l : List Int) : Bool := decide l.Nodup
theorem diff_no {l : List Int} {n : Nat} (h : n < l.length) (hm : l[n] ∈ l.take n) : diff l = false := by
  unfold diff
  refine decide_eq_false (fun hd => ?_)
  obtain ⟨i, hi, he⟩ := List.getElem_of_mem hm
  simp at hi he
  exact List.pairwise_iff_getElem.1 hd i n (by omega) h (by omega) he
theorem diff_step {l : List Int} {n : Nat} (h : n < l.length) (hd : (l.take n).Nodup) (hm : ¬ l[n] ∈ l.take n) : (l.take (n + 1)).Nodup := by
  rw [take_snoc h]
  refine List.pairwise_append.2 ⟨hd, List.pairwise_singleton _ _, ?_⟩
  intro a ha b hb
  rw [List.mem_singleton] at hb
  subst hb
  exact fun e => hm (e ▸ ha)

set_option maxHeartbeats 800000 in
theorem different_any (a : Option Addr) (cap : Nat) (l : List Int) (w : World) (hr : Rd w a l) (hl : l.length ≤ 1073741824) (hcap : l.length ≤ cap) :
    Calls Try.prog 97 #[.slice a l.length cap] w fun e w' => e = .returned (.bool (diff l)) ∧ ∃ q, w' = w.drewN q := by
  go_enter Try.func97, Try.ntmps97
  go_wp2
  go_loopw [3] (fun i wr => ∃ n q : Nat, n ≤ l.length ∧ i = .int .i64 n ∧ Hid ((l.take n).Nodup) ∧ Hid (wr = w.drewN q)) (fun i _ => l.length - (intOf i).toNat)
  case atStart => exact ⟨0, 0, Nat.zero_le _, rfl, List.nodup_nil, rfl⟩
  case round =>
    obtain ⟨n, q, hn, rfl, HN, HW⟩ := hrel
    have hr1 : Rd wr a l := by rw [HW.out]; exact hr
    clear hr
    by_cases hlt : n < l.length
    · have hrt : Rd wr a (l.take n) := hr1.take n
      have hnc : n ≤ cap := by omega
      obtain ⟨b, off, rfl, hb, hc⟩ := hr1.at hlt
      have hc1 := hc n hlt
      clear hc hr1
      by_cases hm : l[n] ∈ l.take n
      · have HS := Hid.mk' (diff_no hlt hm)
        have HI := Hid.mk' (fun q' => in_yes (some ⟨b, off, none⟩) n cap (l.take n) l[n] (wr.drewN q') hrt (by unfold maxLen; simp; omega) (by simp; omega) hm)
        clear hm
        go_wp2
        go_quiet ((go_at_call 70; exact Calls.quiet_of_same (HI.out _)))
        go_wp2
        go_ret
        exact ⟨ret_bool HS.out.symm, by rw [HW.out, World.drewN_drewN]; exact ⟨_, rfl⟩⟩
      · have HS := Hid.mk' (diff_step hlt HN.out hm)
        have HI := Hid.mk' (fun q' => in_no (some ⟨b, off, none⟩) n cap (l.take n) l[n] (wr.drewN q') hrt (by unfold maxLen; simp; omega) (by simp; omega) hm)
        clear hm
        go_wp2
        go_quiet ((go_at_call 70; exact Calls.quiet_of_same (HI.out _)))
        go_wp2
        go_roundw
        case rel => exact ⟨n + 1, _, by omega, by go_num, HS, by rw [HW.out, World.drewN_drewN]; rfl⟩
        case measure => simp [intOf]; omega
    · have HS : Hid (diff l = true) := by
        have := HN.out
        rw [List.take_of_length_le (by omega)] at this
        exact decide_eq_true this
      go_wp2
      go_ret
      exact ⟨ret_bool HS.out.symm, q, HW.out⟩

theorem diff_ranks {xs : List Int} {h : Nat} (hh : xs.length ≤ h) : diff (ranks xs h) = true := by
  refine decide_eq_true ?_
  refine List.pairwise_iff_getElem.2 (fun i j hi hj hij he => ?_)
  simp [ranks] at hi hj he
  have := (rk_eq_iff (xs := xs) (h := h) hj hi).1 (by omega)
  rw [fst_whole (by omega), fst_whole (by omega)] at this
  have := congrArg List.length this
  simp at this
  omega

/-- P10, from r on: the least number of rounds; -1, if there is none below 8. -/
def roundsFrom (xs : List Int) : Nat → Nat → Int
  | 0, _ => -1
  | k + 1, r => if diff (ranks xs (2 ^ r)) = true then r else roundsFrom xs k (r + 1)
def rounds (xs : List Int) : Int := roundsFrom xs 8 0

theorem diff_len (a : Option Addr) (len cap : Nat) (l : List Int) (w : World) (hr : Rd w a l) (hl : l.length ≤ 1073741824) (hcap : l.length ≤ cap) (h : l.length = len) (v : Bool) (hv : diff l = v) :
    Calls Try.prog 97 #[.slice a len cap] w fun e w' => e = .returned (.bool v) ∧ ∃ q, w' = w.drewN q := by
  subst h; subst hv; exact different_any a cap l w hr hl hcap

set_option maxHeartbeats 800000 in
theorem rounds_any (a : Option Addr) (cap : Nat) (xs : List Int) (w : World) (hr : Rd w a xs) (hl : xs.length ≤ 1073741824) (hcap : xs.length ≤ cap) :
    Calls Try.prog 77 #[.slice a xs.length cap] w fun e w' => e = .returned (.int .i64 (rounds xs)) ∧ Below w.heap.size w w' := by
  go_enter Try.func77, Try.ntmps77
  go_wp2
  go_loopw [3, 4] (fun h r wr => ∃ n p : Nat, n ≤ 8 ∧ r = .int .i64 n ∧ h = .int .i64 p ∧ p ≤ 256 ∧ Hid (p = 2 ^ n) ∧ Hid (rounds xs = roundsFrom xs (8 - n) n) ∧ Hid (Below w.heap.size w wr)) (fun _ r _ => 8 - (intOf r).toNat)
  case atStart => exact ⟨0, 1, Nat.zero_le _, rfl, rfl, by omega, rfl, rfl, Below.refl _ _⟩
  case round =>
    obtain ⟨n, p, hn, rfl, rfl, hp, HP, HR, HB⟩ := hrel
    have hrx := hr.below HB.out
    by_cases hlt : n < 8
    · have hs : roundsFrom xs (8 - n) n = if diff (ranks xs (2 ^ n)) = true then (n : Int) else roundsFrom xs (8 - (n + 1)) (n + 1) := by
        rw [show 8 - n = (8 - (n + 1)) + 1 by omega]; rfl
      rw [← HP.out] at hs
      have HS := Hid.mk' hs
      clear hs
      have hp2 : p ≤ 128 := by
        have := HP.out
        have h7 : 2 ^ n ≤ 2 ^ 7 := Nat.pow_le_pow_right (by omega) (by omega)
        omega
      go_wp2_with fail
      refine (refRanks_any _ _ xs p _ hrx hl hcap).mono ?_
      rintro e w1 ⟨rfl, ho, hb1⟩
      have hrd := ho.rd
      cases hd : diff (ranks xs p) with
      | true =>
        have HQ := Hid.mk' (HR.out.trans (HS.out.trans (if_pos hd)))
        have HI := Hid.mk' (fun W hW => diff_len (some ⟨wr.heap.size, 0, none⟩) xs.length xs.length (ranks xs p) W hW (by rw [ranks_length]; exact hl) (by rw [ranks_length]; exact Nat.le_refl _) (ranks_length xs p) true hd)
        clear hd
        go_wp2_with fail
        refine (HI.out _ hrd).mono ?_
        rintro e w2 ⟨rfl, q, rfl⟩
        go_wp2
        go_ret
        exact ⟨ret_int HQ.out.symm, below_drewN (HB.out.trans (hb1.mono HB.out.size)) q⟩
      | false =>
        have HQ := Hid.mk' (HR.out.trans (HS.out.trans (if_neg (by rw [hd]; simp))))
        have HI := Hid.mk' (fun W hW => diff_len (some ⟨wr.heap.size, 0, none⟩) xs.length xs.length (ranks xs p) W hW (by rw [ranks_length]; exact hl) (by rw [ranks_length]; exact Nat.le_refl _) (ranks_length xs p) false hd)
        clear hd
        go_wp2_with fail
        refine (HI.out _ hrd).mono ?_
        rintro e w2 ⟨rfl, q, rfl⟩
        go_wp2
        go_roundw
        case rel => exact ⟨n + 1, 2 * p, by omega, by go_num, by go_num, by omega, by rw [Hid, Nat.pow_succ, HP.out]; omega, HQ, below_drewN (HB.out.trans (hb1.mono HB.out.size)) q⟩
        case measure => simp [intOf]; omega
    · obtain rfl : n = 8 := by omega
      go_wp2
      go_ret
      exact ⟨ret_int HR.out.symm, HB.out⟩

end Go.Proofs.Ytdhehffdddbmbaa
