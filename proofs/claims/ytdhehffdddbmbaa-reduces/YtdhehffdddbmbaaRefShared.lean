/-
  RefShared: the walks of the document's own common, Shared.
-/
import Derived.Test.YtdhehffdddbmbaaRefOrder
import Derived.Test.YtdhehffdddbmbaaMBase
import Derived.Deep.RegionHeld3
namespace Go.Proofs.Ytdhehffdddbmbaa
open Go.RowKit

set_option maxHeartbeats 1600000 in
set_option maxRecDepth 100000 in
theorem common_any (a : Option Addr) (cap : Nat) (xs : List Int) (i j : Nat) (w : World) (hr : Rd w a xs) (hl : xs.length ≤ 1073741824) (hi : i ≤ 1073741824) (hj : j ≤ 1073741824) :
    Calls Try.prog 62 #[.slice a xs.length cap, .int .i64 i, .int .i64 j] w fun e w' => e = .returned (.int .i64 (cm xs i j)) ∧ ∃ q, w' = w.drewN q := by
  go_enter Try.func62, Try.ntmps62
  go_wp2
  go_loopw [7] (fun k wr => ∃ n q : Nat, n ≤ xs.length ∧ k = .int .i64 n ∧ Hid (cm xs i j = cm xs (i + n) (j + n) + n) ∧ Hid (wr = w.drewN q)) (fun k _ => xs.length - (intOf k).toNat)
  case atStart => exact ⟨0, 0, Nat.zero_le _, rfl, rfl, rfl⟩
  case round =>
    obtain ⟨n, q, hn, rfl, HC, HW⟩ := hrel
    have hr1 : Rd wr a xs := by rw [HW.out]; exact hr
    clear hr
    by_cases h1 : i + n < xs.length
    · have hd1 : decide ((i : Int) + (n : Int) < (xs.length : Int)) = true := decide_eq_true (by omega)
      by_cases h2 : j + n < xs.length
      · have hd2 : decide ((j : Int) + (n : Int) < (xs.length : Int)) = true := decide_eq_true (by omega)
        obtain ⟨b, off, rfl, hb, hc⟩ := hr1.at h1
        have hc1 := hc (i + n) h1
        have hc2 := hc (j + n) h2
        clear hc hr1
        by_cases h3 : xs[i + n] = xs[j + n]
        · have HS := Hid.mk' (cm_step h1 h2 h3)
          have hbe : (xs[i + n] == xs[j + n]) = true := by simp [h3]
          clear h3
          go_wp2
          go_quiet (fail)
          go_wp2
          go_roundw
          case rel => exact ⟨n + 1, _, by omega, by go_num, by rw [Hid, HC.out, HS.out]; simp only [Nat.add_assoc]; omega, by rw [HW.out, World.drewN_drewN]; rfl⟩
          case measure => simp [intOf]; omega
        · have HS := Hid.mk' (cm_stop h1 h2 h3)
          have hbe : (xs[i + n] == xs[j + n]) = false := by simp [h3]
          clear h3
          go_wp2
          go_quiet (fail)
          go_wp2
          go_ret
          exact ⟨ret_int (by rw [HC.out, HS.out, Nat.zero_add]), by rw [HW.out, World.drewN_drewN]; exact ⟨_, rfl⟩⟩
      · have hd2 : decide ((j : Int) + (n : Int) < (xs.length : Int)) = false := decide_eq_false (by omega)
        have HS := Hid.mk' (cm_end_right (xs := xs) (i := i + n) (j := j + n) (by omega))
        go_wp2
        go_quiet (fail)
        go_wp2
        go_ret
        exact ⟨ret_int (by rw [HC.out, HS.out, Nat.zero_add]), by rw [HW.out, World.drewN_drewN]; exact ⟨_, rfl⟩⟩
    · have hd1 : decide ((i : Int) + (n : Int) < (xs.length : Int)) = false := decide_eq_false (by omega)
      have HS := Hid.mk' (cm_end_left (xs := xs) (i := i + n) (j := j + n) (by omega))
      go_wp2
      go_quiet (fail)
      go_wp2
      go_ret
      exact ⟨ret_int (by rw [HC.out, HS.out, Nat.zero_add]), by rw [HW.out, World.drewN_drewN]; exact ⟨_, rfl⟩⟩

theorem i64_wrap_small {z : Int} (h : -9223372036854775808 ≤ z) (h2 : z ≤ 9223372036854775807) : IntKind.i64.wrap z = z := by
  rw [IntKind.wrap_i64]; omega

/-- The first n numbers of what neighbours share; behind them 0. -/
def ShTo (xs os ds : List Int) (n : Nat) : Prop := Cnt (sharedAt xs os) os.length ds n 0
theorem ShTo.start (xs os : List Int) : ShTo xs os (List.replicate os.length 0) 1 := by
  have h := Cnt.start (sharedAt xs os) os.length
  exact h.next (by simp [sharedAt])
theorem ShTo.step {xs os ds : List Int} {n : Nat} (h : ShTo xs os ds (n + 1)) {p p2 : Nat} (hp : os.getD n 0 = p) (hp2 : os.getD (n + 1) 0 = p2) : ShTo xs os (ds.set (n + 1) (cm xs p p2 : Int)) (n + 2) := by
  refine (Cnt.set h (cm xs p p2 : Int)).next ?_
  unfold sharedAt
  rw [if_neg (by omega), show n + 1 - 1 = n by omega, hp, hp2]
  rfl
theorem ShTo.done {xs os ds : List Int} {n : Nat} (h : ShTo xs os ds n) (hn : os.length ≤ n) : ds = shared xs os := Cnt.done h hn

set_option maxHeartbeats 1600000 in
set_option maxRecDepth 100000 in
theorem refShared_any (a a' : Option Addr) (cap cap' : Nat) (xs os : List Int) (w : World) (hr : Rd w a xs) (hr' : Rd w a' os) (hl : xs.length ≤ 1073741824) (hl' : os.length ≤ 1073741824) (hin : ∀ p ∈ os, 0 ≤ p ∧ p < xs.length) :
    Calls Try.prog 37 #[.slice a xs.length cap, .slice a' os.length cap'] w fun e w' => e = .returned (.slice (some ⟨w.heap.size, 0, none⟩) os.length os.length) ∧ Own w' w.heap.size (shared xs os) ∧ Below w.heap.size w w' := by
  obtain ⟨i0, hi, hz0, hz1, hz2⟩ := info_parts Try.info3
  have hml : os.length ≤ maxLen := by unfold maxLen; omega
  have HIn := Hid.mk' hin
  clear hin
  go_enter Try.func37, Try.ntmps37
  go_wp2_with (at_make; refine wpList_make_full _ rfl _ _ 22 rfl w.heap.size 3 i0 (.int .i64 0) 1 Try.underlying22 hi hz0 hz1 _ _ _ _ os.length rfl rfl (by omega) (by omega) ?b2 hml (Nat.le_refl _) ?_)
  case b2 => rw [hz2]; omega
  intro w2 hown0 hgrow0
  obtain ⟨ho, hb2, hs2⟩ := made_row hown0 hgrow0
  clear hown0 hgrow0
  go_wp2
  go_loopw [6] (fun i wr => ∃ (k : Nat) (ds : List Int), 1 ≤ k ∧ k ≤ os.length + 1 ∧ i = .int .i64 k ∧ Hid (ShTo xs os ds k) ∧ Hid (Own wr w.heap.size ds) ∧ Hid (Below w.heap.size w wr)) (fun i _ => os.length - (intOf i).toNat)
  case atStart => exact ⟨1, _, Nat.le_refl _, by omega, rfl, ShTo.start xs os, ho, hb2⟩
  case round =>
    clear ho hb2 hs2
    obtain ⟨k, ds, hk1, hk, rfl, HC, HO, HB⟩ := hrel
    by_cases hlt : k < os.length
    · have hrx := hr.below HB.out
      have hro := hr'.below HB.out
      obtain ⟨m, hm⟩ : ∃ m, k = m + 1 := ⟨k - 1, by omega⟩
      have hmk : m < k := by omega
      have hml : m < os.length := by omega
      have hA := HIn.out os[m] (List.getElem_mem hml)
      have hB := HIn.out os[k] (List.getElem_mem hlt)
      obtain ⟨b', off', rfl, hb', hc'⟩ := hr'.at hlt
      have hc1 := hro.cell hml
      have hc2 := hro.cell hlt
      have hne : b' ≠ w.heap.size := by omega
      have hne' : w.heap.size ≠ b' := by omega
      obtain ⟨p, hp⟩ : ∃ p : Nat, os.getD m 0 = p := ⟨os[m].toNat, by simp [List.getD, hml]; omega⟩
      obtain ⟨p2, hp2⟩ : ∃ p : Nat, os.getD k 0 = p := ⟨os[k].toNat, by simp [List.getD, hlt]; omega⟩
      rw [hp] at hc1
      rw [hp2] at hc2
      have hs := ShTo.step (xs := xs) (os := os) (ds := ds) (n := m) (by rw [← hm]; exact HC.out) hp (by rw [← hm]; exact hp2)
      rw [← hm, show m + 2 = k + 1 by omega] at hs
      have HS := Hid.mk' hs
      have hpl : p < xs.length := by simp [List.getD, hml] at hp; omega
      have hpl2 : p2 < xs.length := by simp [List.getD, hlt] at hp2; omega
      have hlen : k < ds.length := by have := HC.out.1; omega
      obtain ⟨u, hcell⟩ : ∃ u, wr.cell? ⟨w.heap.size, k, none⟩ = some u := ⟨_, HO.out.cell hlen⟩
      have hfz := HO.out.frozen k
      have hwr : IntKind.i64.wrap ((k : Int) - 1) = (m : Int) := by
        rw [show (k : Int) - 1 = (m : Int) by omega]; exact i64_wrap_small (by omega) (by omega)
      have z1 : (0 : Int) ≤ (m : Int) := by omega
      have z2 : (m : Int) < (os.length : Int) := by omega
      have z3 : (0 : Int) ≤ (k : Int) := by omega
      have z4 : (k : Int) < (os.length : Int) := by omega
      clear hc' hA hB hp hp2 hro hs hm
      go_wp2
      go_region_held3 (fun w' => w'.cell? ⟨b', off' + m, none⟩ = some (.int .i64 p) ∧ w'.cell? ⟨b', off' + k, none⟩ = some (.int .i64 p2)) (go_keep) ((go_at_call 62; refine (common_any _ _ xs p p2 _ (by exact hrx) hl (by omega) (by omega)).mono ?_; rintro e w' ⟨rfl, q, rfl⟩))
      go_wp2
      go_roundw
      case rel => exact ⟨k + 1, _, by omega, by omega, by go_num, HS, (HO.out.drewN _).set k _, (below_drewN HB.out _).setCell (Nat.le_refl _) _⟩
      case measure => simp [intOf]; omega
    · have HN := Hid.mk' (HC.out.done (by omega))
      go_wp2
      go_ret
      exact ⟨rfl, by rw [← HN.out]; exact HO.out, HB.out⟩

end Go.Proofs.Ytdhehffdddbmbaa
