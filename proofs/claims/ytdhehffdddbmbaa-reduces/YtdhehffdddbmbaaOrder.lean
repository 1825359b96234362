/-
  Order: P6: the walks of CheckOrder, of the program and of the document's answer.
-/
import Derived.Test.YtdhehffdddbmbaaScan
import Derived.Test.YtdhehffdddbmbaaLent
import Derived.Test.YtdhehffdddbmbaaLess
import Derived.Test.YtdhehffdddbmbaaMBase
import Derived.Test.YtdhehffdddbmbaaDense
namespace Go.Proofs.Ytdhehffdddbmbaa
open Go.RowKit

/-- Is no number below 0? -/
def from0 (xs : List Int) : Bool := xs.all (fun x => decide (0 ≤ x))
theorem from0_iff (xs : List Int) : from0 xs = true ↔ ∀ x ∈ xs, 0 ≤ x := by simp [from0]
theorem from0_no {xs : List Int} {n : Nat} (h : n < xs.length) (h2 : xs[n] < 0) : from0 xs = false := by
  cases e : from0 xs with
  | false => rfl
  | true => have := (from0_iff xs).1 e xs[n] (List.getElem_mem h); omega
theorem from0_step {xs : List Int} {n : Nat} (h : n < xs.length) (hp : ∀ x ∈ xs.take n, 0 ≤ x) (h2 : ¬ xs[n] < 0) : ∀ x ∈ xs.take (n + 1), 0 ≤ x := by
  intro x hx
  rw [take_snoc h] at hx
  rcases List.mem_append.1 hx with h1 | h1
  · exact hp x h1
  · simp at h1; subst h1; omega

set_option maxHeartbeats 400000 in
theorem allFrom0_any (a : Option Addr) (cap : Nat) (xs : List Int) (w : World) (hr : Rd w a xs) (hl : xs.length ≤ maxLen) :
    Calls Try.prog 71 #[.slice a xs.length cap] w fun e w' => e = .returned (.bool (from0 xs)) ∧ w' = w := by
  unfold maxLen at hl
  go_enter Try.func71, Try.ntmps71
  go_wp2
  go_loop [3] (fun i => ∃ n : Nat, n ≤ xs.length ∧ i = .int .i64 n ∧ Hid (∀ x ∈ xs.take n, 0 ≤ x)) (fun i => xs.length - (intOf i).toNat)
  case atStart => exact ⟨0, Nat.zero_le _, rfl, fun x hx => by simp at hx⟩
  case round =>
    obtain ⟨n, hn, rfl, HP⟩ := hrel
    by_cases hlt : n < xs.length
    · obtain ⟨b, off, rfl, hb, hc⟩ := hr.at hlt
      have hc1 := hc n hlt
      clear hc hr
      by_cases h0 : xs[n] < 0
      · have HS := Hid.mk' (from0_no hlt h0)
        go_wp2
        go_ret
        exact ⟨ret_bool HS.out.symm, rfl⟩
      · have HS := Hid.mk' (from0_step hlt HP.out h0)
        go_wp2
        go_round
        case rel => exact ⟨n + 1, by omega, by go_num, HS⟩
        case measure => simp [intOf]; omega
    · have HS : Hid (from0 xs = true) := (from0_iff xs).2 (by have := HP.out; rwa [List.take_of_length_le (by omega)] at this)
      go_wp2
      go_ret
      exact ⟨ret_bool HS.out.symm, rfl⟩

theorem lesser_len (a a' : Option Addr) (len len' cap cap' : Nat) (xs ys : List Int) (w : World) (hr : Rd w a xs) (hr' : Rd w a' ys) (hl : xs.length ≤ 1073741824) (h : xs.length = len) (h' : ys.length = len') (v : Bool) (hv : lt xs ys = v) :
    Calls Try.prog 72 #[.slice a len cap, .slice a' len' cap'] w fun e w' => e = .returned (.bool v) ∧ ∃ q, w' = w.drewN q := by
  subst h; subst h'; subst hv; exact lesser_any a a' cap cap' xs ys w hr hr' hl

theorem firstOut_in {xs : List Int} {k : Int} (h : ¬ firstOut xs k < xs.length) : ∀ x ∈ xs, 0 ≤ x ∧ x < k := by
  intro x hx
  obtain ⟨i, hi, rfl⟩ := List.getElem_of_mem hx
  have hlt : i < List.findIdx (fun x => decide (x < 0) || decide (k ≤ x)) xs := by unfold firstOut at h; omega
  have := List.not_of_lt_findIdx hlt
  simp at this
  omega
theorem firstOut_out {xs : List Int} {k : Int} (h : firstOut xs k < xs.length) : ∃ x ∈ xs, ¬ (0 ≤ x ∧ x < k) := by
  refine ⟨xs[firstOut xs k], List.getElem_mem h, ?_⟩
  have := List.findIdx_getElem (w := h)
  simp at this
  unfold firstOut
  omega

/-- A call that tells whether P holds, and only reads. -/
def Tells (w : World) (P : Prop) (e : Ending) (w' : World) : Prop := ∃ b : Bool, e = .returned (.bool b) ∧ (b = true ↔ P) ∧ ∃ q, w' = w.drewN q
theorem Tells.no {w w' : World} {P : Prop} {q : Nat} (h : ¬ P) (hw : w' = w.drewN q) : Tells w P (.returned (.bool false)) w' := ⟨false, rfl, by simp [h], q, hw⟩
theorem Tells.yes {w w' : World} {P : Prop} {q : Nat} (h : P) (hw : w' = w.drewN q) : Tells w P (.returned (.bool true)) w' := ⟨true, rfl, by simp [h], q, hw⟩

/-- What IsOrder tells. -/
def Told (xs os : List Int) : Prop := xs.length ≤ 96 ∧ (∀ x ∈ xs, 0 ≤ x) ∧ Ord xs os

set_option maxHeartbeats 1600000 in
set_option maxRecDepth 100000 in
theorem isOrder_any (a a' : Option Addr) (cap cap' : Nat) (xs os : List Int) (w : World) (hr : Rd w a xs) (hr' : Rd w a' os) (hl : xs.length ≤ 1073741824) (hl' : os.length ≤ 1073741824) (hcap : xs.length ≤ cap) :
    Calls Try.prog 53 #[.slice a xs.length cap, .slice a' os.length cap'] w fun e w' => Tells w (Told xs os) e w' := by
  have hml : xs.length ≤ maxLen := by unfold maxLen; omega
  have hml' : os.length ≤ maxLen := by unfold maxLen; omega
  by_cases h96 : 96 < xs.length
  · have HF : Hid (¬ Told xs os) := fun h => by have := h.1; omega
    go_enter Try.func53, Try.ntmps53
    go_wp2
    go_ret
    exact Tells.no (q := 0) HF.out rfl
  · by_cases hlen : os.length = xs.length
    · have HL := Hid.mk' hlen
      have hbl : ((os.length : Int) != (xs.length : Int)) = false := by simp [hlen]
      clear hlen
      cases h0 : from0 xs with
      | false =>
        have HF : Hid (¬ Told xs os) := fun h => by have := (from0_iff xs).2 h.2.1; rw [h0] at this; cases this
        have H0 := Hid.mk' h0
        clear h0
        go_enter Try.func53, Try.ntmps53
        go_wp2_with fail
        refine (allFrom0_any _ _ xs _ hr hml).mono ?_
        rintro e w' ⟨rfl, rfl⟩
        rw [H0.out]
        go_wp2
        go_ret
        exact Tells.no (q := 0) HF.out rfl
      | true =>
        have H0 := Hid.mk' h0
        clear h0
        have hfl := firstOut_le os xs.length
        by_cases hf : firstOut os xs.length < os.length
        · have HF : Hid (¬ Told xs os) := fun h => by
            obtain ⟨x, hx, hno⟩ := firstOut_out hf
            exact hno ((h.2.2.2 x).1 hx)
          go_enter Try.func53, Try.ntmps53
          go_wp2_with fail
          refine (allFrom0_any _ _ xs _ hr hml).mono ?_
          rintro e w' ⟨rfl, rfl⟩
          rw [H0.out]
          go_wp2_with fail
          refine (firstOutside_any _ _ os _ _ hr' hml').mono ?_
          rintro e w' ⟨rfl, rfl⟩
          go_wp2
          go_ret
          exact Tells.no (q := 0) HF.out rfl
        · have HIn := Hid.mk' (firstOut_in hf)
          go_enter Try.func53, Try.ntmps53
          go_wp2_with fail
          refine (allFrom0_any _ _ xs _ hr hml).mono ?_
          rintro e w' ⟨rfl, rfl⟩
          rw [H0.out]
          go_wp2_with fail
          refine (firstOutside_any _ _ os _ _ hr' hml').mono ?_
          rintro e w' ⟨rfl, rfl⟩
          go_wp2
          go_loopw [5] (fun i wr => ∃ n q : Nat, n ≤ os.length ∧ i = .int .i64 ((n : Int) + 1) ∧ Hid ((os.take (n + 1)).Pairwise (sl xs)) ∧ Hid (wr = w'.drewN q)) (fun i _ => os.length - (intOf i).toNat)
          case atStart => exact ⟨0, 0, Nat.zero_le _, rfl, by cases os <;> simp [Hid], rfl⟩
          case round =>
            obtain ⟨n, q, hn, rfl, HP, HW⟩ := hrel
            have hr1 : Rd wr a xs := by rw [HW.out]; exact hr
            have hr2 : Rd wr a' os := by rw [HW.out]; exact hr'
            clear hr hr'
            by_cases hlt : n + 1 < os.length
            · have hA := HIn.out os[n] (List.getElem_mem (by omega))
              have hB := HIn.out os[n + 1] (List.getElem_mem hlt)
              obtain ⟨b', off', rfl, hb', hc'⟩ := hr2.at hlt
              have hc1 := hc' n (by omega)
              have hc2 := hc' (n + 1) hlt
              obtain ⟨p, hp⟩ : ∃ p : Nat, os[n] = p := ⟨os[n].toNat, by omega⟩
              obtain ⟨p2, hp2⟩ : ∃ p : Nat, os[n + 1] = p := ⟨os[n + 1].toNat, by omega⟩
              rw [show os.getD n 0 = (p : Int) by rw [← hp]; simp [List.getD, show n < os.length by omega]] at hc1
              rw [show os.getD (n + 1) 0 = (p2 : Int) by rw [← hp2]; simp [List.getD, hlt]] at hc2
              have hpl : p < xs.length := by omega
              have hpl2 : p2 < xs.length := by omega
              obtain ⟨b, off, rfl, hb, hc⟩ := hr1.at hpl
              have HS : Hid (sl xs os[n] os[n + 1] ↔ lt (xs.drop p) (xs.drop p2) = true) := by unfold sl Hid; rw [hp, hp2]; simp
              have hd1 : Rd wr (some ⟨b, off + p, none⟩) (xs.drop p) := hr1.drop p
              have hd2 : Rd wr (some ⟨b, off + p2, none⟩) (xs.drop p2) := hr1.drop p2
              have HI := Hid.mk' (fun (v : Bool) (hv : lt (xs.drop p) (xs.drop p2) = v) (q' : Nat) => lesser_len (some ⟨b, off + p, none⟩) (some ⟨b, off + p2, none⟩) (xs.length - p) (xs.length - p2) (cap - p) (cap - p2) (xs.drop p) (xs.drop p2) (wr.drewN q') hd1 hd2 (by simp; omega) (by simp) (by simp) v hv)
              clear hc hc' hp hp2 hA hB hd1 hd2 hr1 hr2
              cases hv : lt (xs.drop p) (xs.drop p2) with
              | true =>
                have HI2 := Hid.mk' (HI.out true hv)
                have HR := Hid.mk' (rise_step hlt HP.out (HS.out.2 hv))
                clear HI hv HS
                go_wp2
                go_quiet ((go_at_call 72; exact Calls.quiet_of (HI2.out _)))
                go_wp2
                go_roundw
                case rel => exact ⟨n + 1, _, by omega, by go_num, HR, by rw [HW.out, World.drewN_drewN]; rfl⟩
                case measure => simp [intOf]; omega
              | false =>
                have HI2 := Hid.mk' (HI.out false hv)
                have HF : Hid (¬ Told xs os) := fun h => rise_no hlt (fun h2 => by have := HS.out.1 h2; rw [hv] at this; cases this) h.2.2
                clear HI hv HS
                go_wp2
                go_quiet ((go_at_call 72; exact Calls.quiet_of (HI2.out _)))
                go_wp2
                go_ret
                exact Tells.no HF.out (by rw [HW.out, World.drewN_drewN])
            · have HF : Hid (Told xs os) := ⟨by omega, (from0_iff xs).1 H0.out, ord_of (by have := HP.out; rwa [List.take_of_length_le (by omega)] at this) HL.out HIn.out⟩
              go_wp2
              go_ret
              exact Tells.yes HF.out HW.out
    · have HF : Hid (¬ Told xs os) := fun h => hlen h.2.2.length
      have hbl : ((os.length : Int) != (xs.length : Int)) = true := by simp; omega
      clear hlen
      go_enter Try.func53, Try.ntmps53
      go_wp2
      go_ret
      exact Tells.no (q := 0) HF.out rfl

set_option maxHeartbeats 400000 in
theorem checkOrder_any (a a' : Option Addr) (cap cap' : Nat) (xs os : List Int) (w : World) (hr : Rd w a xs) (hr' : Rd w a' os) (hl : xs.length ≤ 1073741824) (hl' : os.length ≤ 1073741824) (hcap : xs.length ≤ cap) :
    Calls Try.prog 27 #[.slice a xs.length cap, .slice a' os.length cap'] w fun e w' => Tells w (Told xs os) e w' := by
  go_enter Try.func27, Try.ntmps27
  go_wp2_with fail
  refine (isOrder_any _ _ _ _ xs os _ hr hr' hl hl' hcap).mono ?_
  rintro e w' ⟨b, rfl, hb, q, hw⟩
  have HB := Hid.mk' hb
  have HW := Hid.mk' hw
  clear hb hw
  go_wp2
  go_ret
  exact ⟨b, rfl, HB.out, q, HW.out⟩

end Go.Proofs.Ytdhehffdddbmbaa
