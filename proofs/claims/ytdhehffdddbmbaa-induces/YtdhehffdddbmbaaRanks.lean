/-
  Ranks: P7: the walks of the program's beginning, ByFirst, Ranks.
-/
import Derived.Test.YtdhehffdddbmbaaRefRanks
namespace Go.Proofs.Ytdhehffdddbmbaa
open Go.RowKit

set_option maxHeartbeats 400000 in
theorem beginning_any (a : Option Addr) (len cap : Nat) (ys : List Int) (h : Nat) (w : World) (hr : Rd w a ys) (hcap : ys.length ≤ cap) (hn : ys.length = len) :
    Calls Try.prog 74 #[.slice a len cap, .int .i64 h] w fun e w' => ∃ A c, e = .returned (.slice A (ys.take h).length c) ∧ (∀ v, Rd v a ys → Rd v A (ys.take h)) ∧ w' = w := by
  subst hn
  have HL := Hid.mk' (List.length_take (i := h) (l := ys))
  by_cases hh : h < ys.length
  · obtain ⟨b, off, rfl, hb, hc⟩ := hr.at hh
    have HD := Hid.mk' (fun v (hv : Rd v (some ⟨b, off, none⟩) ys) => hv.take h)
    clear hc hr
    go_enter Try.func74, Try.ntmps74
    go_wp2
    go_ret
    exact ⟨_, _, ret_slice (by rw [HL.out]; omega), HD.out, rfl⟩
  · have HD := Hid.mk' (fun v (hv : Rd v a ys) => hv.take h)
    clear hr
    go_enter Try.func74, Try.ntmps74
    go_wp2
    go_ret
    exact ⟨_, _, ret_slice (by rw [HL.out]; omega), HD.out, rfl⟩

theorem lesser_lens (a a' : Option Addr) (cap cap' : Nat) (xs ys : List Int) (w : World) (hr : Rd w a xs) (hr' : Rd w a' ys) (hl : xs.length ≤ 1073741824) (v : Bool) (hv : lt xs ys = v) :
    Calls Try.prog 72 #[.slice a xs.length cap, .slice a' ys.length cap'] w fun e w' => e = .returned (.bool v) ∧ ∃ q, w' = w.drewN q := by
  subst hv; exact lesser_any a a' cap cap' xs ys w hr hr' hl

/-- 'text[i:]' of a place that is there, cut to h symbols. -/
theorem begin_any (b off cap : Nat) (xs : List Int) (i h : Nat) (w : World) (hr : Rd w (some ⟨b, off, none⟩) xs) (hcap : xs.length ≤ cap) (_hi : i < xs.length) :
    Calls Try.prog 74 #[.slice (some ⟨b, off + i, none⟩) (xs.length - i) (cap - i), .int .i64 h] w fun e w' => ∃ A c, e = .returned (.slice A (fst xs i h).length c) ∧ (∀ v, Rd v (some ⟨b, off, none⟩) xs → Rd v A (fst xs i h)) ∧ w' = w := by
  refine (beginning_any _ _ _ (xs.drop i) h w (hr.drop i) (by simp; omega) (by simp)).mono ?_
  rintro e w' ⟨A, c, rfl, hA, rfl⟩
  exact ⟨A, c, rfl, fun v hv => hA v (hv.drop i), rfl⟩

set_option maxHeartbeats 1600000 in
set_option maxRecDepth 100000 in
theorem byFirst_any (a : Option Addr) (cap : Nat) (xs : List Int) (h : Nat) (w : World) (hr : Rd w a xs) (hl : xs.length ≤ 1073741824) (hcap : xs.length ≤ cap) :
    Calls Try.prog 55 #[.slice a xs.length cap, .int .i64 h] w fun e w' => e = .returned (.slice (some ⟨w.heap.size, 0, none⟩) xs.length xs.length) ∧ Own w' w.heap.size (ranks xs h) ∧ Below w.heap.size w w' := by
  obtain ⟨i0, hi, hz0, hz1, hz2⟩ := info_parts Try.info3
  have hml : xs.length ≤ maxLen := by unfold maxLen; omega
  go_enter Try.func55, Try.ntmps55
  go_wp2_with (at_make; refine wpList_make_full _ rfl _ _ 22 rfl w.heap.size 3 i0 (.int .i64 0) 1 Try.underlying22 hi hz0 hz1 _ _ _ _ xs.length rfl rfl (by omega) (by omega) ?b2 hml (Nat.le_refl _) ?_)
  case b2 => rw [hz2]; omega
  intro w2 hown0 hgrow0
  obtain ⟨ho, hb2, hs2⟩ := made_row hown0 hgrow0
  clear hown0 hgrow0
  go_wp2
  go_loopw [6] (fun i wr => ∃ (n : Nat) (ds : List Int), n ≤ xs.length ∧ i = .int .i64 n ∧ Hid (Cnt (fun i => (rk xs h i : Int)) xs.length ds n 0) ∧ Hid (Own wr w.heap.size ds) ∧ Hid (Below w.heap.size w wr)) (fun i _ => xs.length - (intOf i).toNat)
  case atStart => exact ⟨0, _, Nat.zero_le _, rfl, Cnt.start _ _, ho, hb2⟩
  case round =>
    clear ho hb2 hs2
    obtain ⟨n, ds, hn, rfl, HC, HO, HB⟩ := hrel
    by_cases hlt : n < xs.length
    · obtain ⟨b, off, rfl, hb, hc⟩ := hr.at hlt
      clear hc
      have hrn := hr.below HB.out
      go_wp2_with fail
      refine (begin_any b off cap xs n h _ hrn hcap hlt).mono ?_
      rintro e w3 ⟨A2, c2, rfl, hA2, rfl⟩
      have HA2 := Hid.mk' hA2
      clear hA2 hrn
      go_wp2
      go_loopw [8] (fun j wr => ∃ (m : Nat) (ds : List Int), m ≤ xs.length ∧ j = .int .i64 m ∧ Hid (Cnt (fun i => (rk xs h i : Int)) xs.length ds n (rkTo xs h n m)) ∧ Hid (Own wr w.heap.size ds) ∧ Hid (Below w.heap.size w wr)) (fun j _ => xs.length - (intOf j).toNat)
      case atStart => exact ⟨0, ds, Nat.zero_le _, rfl, HC, HO, HB⟩
      case round =>
        clear HC HO HB ds
        obtain ⟨m, ds, hm, rfl, HC, HO, HB⟩ := hrel
        by_cases hml2 : m < xs.length
        · have hrx := hr.below HB.out
          have hrl := rkTo_le xs h n m
          go_wp2_with fail
          refine (begin_any b off cap xs m h _ hrx hcap hml2).mono ?_
          rintro e w4 ⟨A, c, rfl, hA, rfl⟩
          cases hv : lt (fst xs m h) (fst xs n h) with
          | true =>
            have HV := Hid.mk' hv
            have HR := Hid.mk' (rkTo_yes hv)
            clear hv
            go_wp2_with fail
            refine (lesser_lens _ _ _ _ _ _ _ (hA _ hrx) (HA2.out _ hrx) (by have := fst_le xs m h; omega) true HV.out).mono ?_
            rintro e w5 ⟨rfl, q, rfl⟩
            have hcell := HO.out.cell (i := n) (by rw [HC.out.1]; exact hlt)
            rw [HC.out.at hlt] at hcell
            have hfz := HO.out.frozen n
            go_wp2
            go_roundw
            case rel => exact ⟨m + 1, ds.set n ((rkTo xs h n m : Int) + 1), by omega, by go_num, by rw [HR.out]; exact HC.out.set _, (HO.out.drewN q).set n _, (below_drewN HB.out q).setCell (Nat.le_refl _) _⟩
            case measure => simp [intOf]; omega
          | false =>
            have HV := Hid.mk' hv
            have HR := Hid.mk' (rkTo_no hv)
            clear hv
            go_wp2_with fail
            refine (lesser_lens _ _ _ _ _ _ _ (hA _ hrx) (HA2.out _ hrx) (by have := fst_le xs m h; omega) false HV.out).mono ?_
            rintro e w5 ⟨rfl, q, rfl⟩
            go_wp2
            go_roundw
            case rel => exact ⟨m + 1, ds, by omega, by go_num, by rw [HR.out]; exact HC, HO.out.drewN q, below_drewN HB.out q⟩
            case measure => simp [intOf]; omega
        · obtain rfl : m = xs.length := by omega
          have HN := Hid.mk' (HC.out.next (by rw [rkTo_all]))
          go_wp2
          go_roundw
          case rel => exact ⟨n + 1, ds, by omega, by go_num, HN, HO, HB⟩
          case measure => simp [intOf]; omega
    · have HN := Hid.mk' (HC.out.done (by omega))
      go_wp2
      go_ret
      exact ⟨rfl, by rw [show ranks xs h = ds from HN.out.symm]; exact HO.out, HB.out⟩

theorem ranksErr_any (a : Option Addr) (cap : Nat) (xs : List Int) (k h : Int) (w : World) (hr : Rd w a xs) (hl : xs.length ≤ maxLen) (hs : scanE xs k ≠ 0) :
    Calls Try.prog 29 #[.slice a xs.length cap, .int .i64 k, .int .i64 h] w fun e w' => e = .returned (.tuple #[.slice none 0 0, .int .i64 (scanE xs k)]) ∧ Below w.heap.size w w' := by
  have hb : (scanE xs k != 0) = true := by simpa using hs
  clear hs
  go_enter Try.func29, Try.ntmps29
  go_wp2_with (go_at_call 44; refine (fault_any a cap xs k _ hr hl).mono ?_; rintro e w' ⟨rfl, rfl⟩)
  go_ret2
  exact ⟨rfl, Below.refl _ _⟩

theorem ranksOpt_any (a : Option Addr) (cap : Nat) (xs : List Int) (k h : Int) (w : World) (hr : Rd w a xs) (hl : xs.length ≤ maxLen) (hs : scanE xs k = 0) (hh : h < 0) :
    Calls Try.prog 29 #[.slice a xs.length cap, .int .i64 k, .int .i64 h] w fun e w' => e = .returned (.tuple #[.slice none 0 0, .int .i64 4]) ∧ Below w.heap.size w w' := by
  have hb : (scanE xs k != 0) = false := by simpa using hs
  clear hs
  go_enter Try.func29, Try.ntmps29
  go_wp2_with (go_at_call 44; refine (fault_any a cap xs k _ hr hl).mono ?_; rintro e w' ⟨rfl, rfl⟩)
  go_ret2
  exact ⟨rfl, Below.refl _ _⟩

theorem ranksOk_any (a : Option Addr) (cap : Nat) (xs : List Int) (k : Int) (h : Nat) (w : World) (hr : Rd w a xs) (hcap : xs.length ≤ cap) (hs : scanE xs k = 0) :
    Calls Try.prog 29 #[.slice a xs.length cap, .int .i64 k, .int .i64 h] w fun e w' => ∃ v, e = .returned (.tuple #[v, .int .i64 0]) ∧ w'.ownsRow w.heap.size 3 1 v xs.length ((ranks xs h).map (Value.int .i64)) ∧ Below w.heap.size w w' := by
  obtain ⟨h96, -, -⟩ := scan_zero hs
  have hl : xs.length ≤ maxLen := by unfold maxLen; omega
  have hb : (scanE xs k != 0) = false := by simpa using hs
  have HL := Hid.mk' (ranks_length xs h)
  clear hs
  go_enter Try.func29, Try.ntmps29
  go_wp2_with (go_at_call 44; refine (fault_any a cap xs k _ hr hl).mono ?_; rintro e w' ⟨rfl, rfl⟩)
  refine (byFirst_any a cap xs h _ hr (by omega) hcap).mono ?_
  rintro e w1 ⟨rfl, ho, hb1⟩
  go_wp2
  go_ret2
  exact ⟨_, rfl, owns_of_own ho (Nat.le_refl _) HL.out hl, hb1⟩

end Go.Proofs.Ytdhehffdddbmbaa
