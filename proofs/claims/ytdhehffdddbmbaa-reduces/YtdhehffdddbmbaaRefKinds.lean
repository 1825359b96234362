/-
  RefKinds: the walk of the document's own Kinds.
-/
import Derived.Test.YtdhehffdddbmbaaKinds
namespace Go.Proofs.Ytdhehffdddbmbaa
open Go.RowKit

theorem less_len (a a' : Option Addr) (len len' cap cap' : Nat) (xs ys : List Int) (w : World) (hr : Rd w a xs) (hr' : Rd w a' ys) (hl : xs.length ≤ 1073741824) (h : xs.length = len) (h' : ys.length = len') (v : Bool) (hv : lt xs ys = v) :
    Calls Try.prog 52 #[.slice a len cap, .slice a' len' cap'] w fun e w' => e = .returned (.bool v) ∧ ∃ q, w' = w.drewN q := by
  subst h; subst h'; subst hv; exact less_any a a' cap cap' xs ys w hr hr' hl

set_option maxHeartbeats 1600000 in
set_option maxRecDepth 100000 in
theorem refKinds_any (a : Option Addr) (cap : Nat) (xs : List Int) (w : World) (hr : Rd w a xs) (hl : xs.length ≤ 1073741824) (hcap : xs.length ≤ cap) (hcap' : cap ≤ 9223372036854775807) :
    Calls Try.prog 26 #[.slice a xs.length cap] w fun e w' => e = .returned (.string (strOfNums (kindsL xs))) ∧ Below w.heap.size w w' := by
  obtain ⟨i0, hi, hz0, hz1, hz2⟩ := info_parts Try.info5
  have hml : xs.length ≤ maxLen := by unfold maxLen; omega
  go_enter Try.func26, Try.ntmps26
  go_wp2_with (at_make; refine wpList_make_full _ rfl _ _ 50 rfl w.heap.size 5 i0 (.int .u8 0) 1 Try.underlying50 hi hz0 hz1 _ _ _ _ xs.length rfl rfl (by omega) (by omega) ?b2 hml (Nat.le_refl _) ?_)
  case b2 => rw [hz2]; omega
  intro w2 hown0 hgrow0
  obtain ⟨ho, hb2, hs2⟩ := made_bytes hown0 hgrow0
  clear hown0 hgrow0
  go_wp2
  go_loopw [4] (fun i wr => ∃ (n : Nat) (ks : List Int), n ≤ xs.length ∧ i = .int .i64 n ∧ Hid (Pre xs ks n) ∧ OwnB wr w.heap.size ks ∧ Below w.heap.size w wr)
    (fun i _ => xs.length - (intOf i).toNat)
  case atStart => exact ⟨0, List.replicate xs.length 0, Nat.zero_le _, rfl, ⟨by simp, by omega⟩, ho, hb2⟩
  case round =>
    obtain ⟨n, ks, hn, rfl, HP, hob, hbr⟩ := hrel
    have hrr := hr.below hbr
    clear ho hb2 hs2
    by_cases hlt : n < xs.length
    · obtain ⟨b, off, rfl, hb, hc⟩ := hrr.at hlt
      clear hc
      have hlk : n < ks.length := by have := HP.out.1; omega
      obtain ⟨u, hcell⟩ : ∃ u, wr.cell? ⟨w.heap.size, n, none⟩ = some u := ⟨_, hob.cell (i := n) (by simpa using hlk)⟩
      have hfz := hob.frozen n
      have hn1 : n + 1 ≤ xs.length := by omega
      have HD := Hid.mk' (HP.out.put hlt)
      have HI := Hid.mk' (fun (v : Bool) (hv : gt xs n = v) (q' : Nat) => less_len _ _ (xs.length - (n + 1)) (xs.length - n) (cap - (n + 1)) (cap - n) (xs.drop (n + 1)) (xs.drop n) (wr.drewN q') (hrr.cut (n + 1) cap hcap) (hrr.drop n) (by simp; omega) (by simp) (by simp) v hv)
      have HO := Hid.mk' hob
      have HB := Hid.mk' hbr
      clear hbr hrr
      cases hg : gt xs n with
      | true =>
        have HI2 := Hid.mk' (HI.out true hg)
        rw [Hid, kd_L hg] at HD
        clear hg HI hob HP
        go_wp2
        go_quiet ((go_at_call 52; exact Calls.quiet_of (HI2.out _)))
        go_wp2
        go_roundw
        case rel => exact ⟨n + 1, _, by omega, by go_num, HD, OwnB.put (OwnV.drewN HO.out _) _ _, (below_drewN HB.out _).setCell (Nat.le_refl _) _⟩
        case measure => simp [intOf]; omega
      | false =>
        have HI2 := Hid.mk' (HI.out false hg)
        cases n with
        | zero =>
          rw [Hid, kd_S0 hg] at HD
          clear hg HI hob HP
          go_wp2
          go_quiet ((go_at_call 52; exact Calls.quiet_of (HI2.out _)))
          go_wp2
          go_roundw
          case rel => exact ⟨1, _, by omega, by go_num, HD, OwnB.put (OwnV.drewN HO.out _) _ _, (below_drewN HB.out _).setCell (Nat.le_refl _) _⟩
          case measure => simp [intOf]; omega
        | succ m =>
          have hB : ks[m]? = some (kd xs m) := HP.out.2 _ (by omega) (by omega)
          have hcB := OwnB.at hob hB
          cases hg0 : gt xs m with
          | true =>
            rw [kd_L hg0] at hcB
            rw [Hid, kd_M hg hg0] at HD
            clear hg hg0 HI hob HP hB
            go_wp2
            go_quiet ((go_at_call 52; exact Calls.quiet_of (HI2.out _)))
            go_wp2
            go_roundw
            case rel => exact ⟨m + 1 + 1, _, by omega, by go_num, HD, OwnB.put (OwnV.drewN HO.out _) _ _, (below_drewN HB.out _).setCell (Nat.le_refl _) _⟩
            case measure => simp [intOf]; omega
          | false =>
            have hk := kd_not hg0
            rw [Hid, kd_S hg hg0] at HD
            clear hg hg0 HI hob HP hB
            go_wp2
            go_quiet ((go_at_call 52; exact Calls.quiet_of (HI2.out _)))
            go_wp2
            go_roundw
            case rel => exact ⟨m + 1 + 1, _, by omega, by go_num, HD, OwnB.put (OwnV.drewN HO.out _) _ _, (below_drewN HB.out _).setCell (Nat.le_refl _) _⟩
            case measure => simp [intOf]; omega
    · have hdone := HP.out.done (by omega)
      have hkl : ks.length = xs.length := HP.out.1
      have hconv := conv_own hob xs.length xs.length hkl
      rw [hdone] at hconv
      have HB := Hid.mk' hbr
      clear hdone hkl hob HP hbr hrr
      go_wp2
      go_ret
      exact ⟨rfl, HB.out⟩

end Go.Proofs.Ytdhehffdddbmbaa
