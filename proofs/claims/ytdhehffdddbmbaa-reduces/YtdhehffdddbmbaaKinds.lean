/-
  Kinds: P5: the walks of Kinds, of the program and of the document's answer.
-/
import Derived.Test.YtdhehffdddbmbaaScan
import Derived.Test.YtdhehffdddbmbaaLent
import Derived.Test.YtdhehffdddbmbaaLess
import Derived.Test.YtdhehffdddbmbaaMBase
import Derived.Laws.BytesArg
namespace Go.Proofs.Ytdhehffdddbmbaa
open Go.RowKit

/-- A row of bytes of the call's own. -/
abbrev OwnB (w : World) (g : Nat) (ks : List Int) : Prop := OwnV w g 5 (ks.map (Value.int .u8))
theorem OwnB.at {w : World} {g : Nat} {ks : List Int} (h : OwnB w g ks) {i : Nat} {x : Int} (hi : ks[i]? = some x) : w.cell? ⟨g, i, none⟩ = some (.int .u8 x) := by
  have hl : i < ks.length := (List.getElem?_eq_some_iff.1 hi).1
  rw [h.cell (i := i) (by simpa using hl)]
  have : ks[i] = x := (List.getElem?_eq_some_iff.1 hi).2
  simp [this]
theorem OwnB.put {w : World} {g : Nat} {ks : List Int} (h : OwnB w g ks) (i : Nat) (x : Int) : OwnB (w.setCell ⟨g, i, none⟩ (.int .u8 x)) g (ks.set i x) := by
  have := h.set i (.int .u8 x)
  rwa [← List.map_set] at this

theorem made_bytes {w w0 : World} {n : Nat} (h : w0.ownsRow w.heap.size 5 1 (.slice (some ⟨w.heap.size, 0, none⟩) n n) n (madeCells #[Value.int .u8 0] n).toList) (hg : w.grownBy w0 none) :
    OwnB w0 w.heap.size (List.replicate n 0) ∧ Below w.heap.size w w0 ∧ w.heap.size < w0.heap.size := by
  rw [toList_madeCells_one] at h
  have ho : OwnB w0 w.heap.size (List.replicate n 0) := by
    obtain ⟨hl, h2⟩ := h
    rcases h2 with ⟨hv, _⟩ | ⟨g', cap, cur, hv, _, hh, _, _, hsz, ht⟩
    · cases hv
    · cases hv
      simp at hsz ht hl
      unfold OwnB OwnV
      rw [hh]
      rw [List.take_of_length_le (by simp; omega)] at ht
      congr 1
      rw [List.map_replicate, ← ht]
  exact ⟨ho, (Below.refl _ _).grown hg (Nat.le_refl _) (fun k h => by cases h), ho.lt⟩

theorem Try.info5 : (Try.prog.info? 5).map (fun i => (i.zero, i.size, i.bytes)) = some (some (.int .u8 0), 1, 1) := by kernel_rfl

theorem conv_own {w : World} {g : Nat} {ks : List Int} (h : OwnB w g ks) (n cap : Nat) (hn : ks.length = n) : (convert 50 9 (.slice (some ⟨g, 0, none⟩) n cap)).run Try.prog w = .ok (.string (strOfNums ks)) w :=
  run_convert_bytes_arg w 50 5 Try.underlying50 Try.underlying5 g 0 n cap ks hn (fun i hi => by rw [Nat.zero_add]; exact h.at (by simp [List.getD, show i < ks.length by omega])) 9 Try.underlying9

set_option maxHeartbeats 1600000 in
set_option maxRecDepth 100000 in
theorem textsKinds_any (a : Option Addr) (cap : Nat) (xs : List Int) (w : World) (hr : Rd w a xs) (hl : xs.length ≤ 1073741824) :
    Calls Try.prog 51 #[.slice a xs.length cap] w fun e w' => e = .returned (.string (strOfNums (kindsL xs))) ∧ Below w.heap.size w w' := by
  obtain ⟨i0, hi, hz0, hz1, hz2⟩ := info_parts Try.info5
  have hml : xs.length ≤ maxLen := by unfold maxLen; omega
  go_enter Try.func51, Try.ntmps51
  go_wp2_with (at_make; refine wpList_make_full _ rfl _ _ 50 rfl w.heap.size 5 i0 (.int .u8 0) 1 Try.underlying50 hi hz0 hz1 _ _ _ _ xs.length rfl rfl (by omega) (by omega) ?b2 hml (Nat.le_refl _) ?_)
  case b2 => rw [hz2]; omega
  intro w2 hown0 hgrow0
  obtain ⟨ho, hb2, hs2⟩ := made_bytes hown0 hgrow0
  clear hown0 hgrow0
  go_wp2
  go_loopw [4, 5] (fun fl i wr => ∃ (n : Nat) (F : Bool) (ks : List Int), n ≤ xs.length ∧ i = .int .i64 ((n : Int) - 1) ∧ fl = .bool F ∧ Hid (n < xs.length → F = gt xs n) ∧ Hid (n = xs.length → F = true) ∧ Hid (Part xs ks n 0) ∧ OwnB wr w.heap.size ks ∧ Below w.heap.size w wr)
    (fun _ i _ => (intOf i + 1).toNat)
  case atStart => exact ⟨xs.length, true, List.replicate xs.length 0, Nat.le_refl _, rfl, rfl, fun h => absurd h (Nat.lt_irrefl _), fun _ => rfl, ⟨by simp, by omega, by omega⟩, ho, hb2⟩
  case round =>
    obtain ⟨n, F, ks, hn, rfl, rfl, H1, H2, HP, hob, hbr⟩ := hrel
    have hrr := hr.below hbr
    clear ho hb2 hs2
    cases n with
    | zero =>
      have HP1 := Hid.mk' HP.out.one
      have hw : w.heap.size < wr.heap.size := hob.lt
      clear H1 H2 HP hrr
      go_wp2
      go_loopw [6] (fun i wq => ∃ (n : Nat) (ks : List Int), i = .int .i64 ((n : Int) + 1) ∧ n ≤ xs.length ∧ Hid (Part xs ks 0 (n + 1)) ∧ OwnB wq w.heap.size ks ∧ Below w.heap.size w wq) (fun i _ => xs.length - (intOf i).toNat)
      case atStart => exact ⟨0, ks, rfl, Nat.zero_le _, HP1, hob, hbr⟩
      case round =>
        clear hob hbr HP1
        obtain ⟨n, ks, rfl, hnl, HP, hob, hbr⟩ := hrel
        by_cases hlt : n + 1 < xs.length
        · have hlk : n + 1 < ks.length := by have := HP.out.1; omega
          have hA : ks[n + 1]? = some (ls xs (n + 1)) := HP.out.2.2 _ (Nat.zero_le _) (Nat.le_refl _) hlt
          have hB : ks[n]? = some (kd xs n) := HP.out.2.1 _ (Nat.zero_le _) (by omega) (by omega)
          have hcA := OwnB.at hob hA
          have hcB := OwnB.at hob hB
          have hfA := hob.frozen (n + 1)
          have HPut := Hid.mk' (HP.out.put hlt)
          clear hA hB
          cases hg : gt xs (n + 1) with
          | true =>
            rw [ls_L hg] at hcA
            have HS := Hid.mk' (HP.out.stay ((kd_L hg).trans (ls_L hg).symm))
            clear hg HPut HP
            go_wp2
            go_roundw
            case rel => exact ⟨n + 1, ks, by go_num, by omega, HS, hob, hbr⟩
            case measure => simp [intOf]; omega
          | false =>
            rw [ls_S hg] at hcA
            cases hg0 : gt xs n with
            | true =>
              rw [kd_L hg0] at hcB
              rw [Hid, kd_M hg hg0] at HPut
              have R := Hid.mk' (And.intro HPut (And.intro (OwnB.put hob (n + 1) 77) (hbr.setCell (p := ⟨w.heap.size, n + 1, none⟩) (Nat.le_refl _) (.int .u8 77))))
              clear hg hg0 HP HPut hob hbr
              go_wp2
              go_roundw
              case rel => exact ⟨n + 1, _, by go_num, by omega, R.out.1, R.out.2.1, R.out.2.2⟩
              case measure => simp [intOf]; omega
            | false =>
              have hk := kd_not hg0
              have HS := Hid.mk' (HP.out.stay ((kd_S hg hg0).trans (ls_S hg).symm))
              clear hg hg0 HP HPut
              go_wp2
              go_roundw
              case rel => exact ⟨n + 1, ks, by go_num, by omega, HS, hob, hbr⟩
              case measure => simp [intOf]; omega
        · have hdone := HP.out.done (by omega)
          have hkl : ks.length = xs.length := HP.out.1
          have hconv := conv_own hob xs.length xs.length hkl
          rw [hdone] at hconv
          have HB := Hid.mk' hbr
          clear hdone hkl hob HP hbr
          go_wp2
          go_ret
          exact ⟨rfl, HB.out⟩
    | succ m =>
      have hm : m < xs.length := by omega
      obtain ⟨b, off, rfl, hb, hc⟩ := hrr.at hm
      have hc1 := hc m hm
      have HD := Hid.mk' (HP.out.down hm)
      have hlk : m < ks.length := by have := HP.out.1; omega
      obtain ⟨u, hcell⟩ : ∃ u, wr.cell? ⟨w.heap.size, m, none⟩ = some u := ⟨_, hob.cell (i := m) (by simpa using hlk)⟩
      have hfz := hob.frozen m
      rw [show ((m + 1 : Nat) : Int) - 1 = (m : Int) by omega]
      have HO := Hid.mk' hob
      have HB := Hid.mk' hbr
      clear hob hbr hrr HP
      by_cases hlast : m + 1 < xs.length
      · have hc2 := hc (m + 1) hlast
        have hd : decide ((m : Int) + 1 < (xs.length : Int)) = true := decide_eq_true (by omega)
        obtain rfl : F = gt xs (m + 1) := H1.out hlast
        by_cases he : xs[m] = xs[m + 1]
        · have hbe : (xs[m] != xs[m + 1]) = false := by simp [he]
          have hgs := gt_same hlast he
          cases hg : gt xs (m + 1) with
          | true =>
            rw [hg] at hgs
            have HG := Hid.mk' hgs
            rw [Hid, ls_L hgs] at HD
            clear hgs hg hc H1 H2 he
            go_wp2
            go_quiet (fail)
            go_wp2
            go_roundw
            case rel => exact ⟨m, _, _, by omega, by go_num, rfl, fun _ => HG.out.symm, fun h => absurd h (by omega), HD, OwnB.put (OwnV.drewN HO.out _) m 76, (below_drewN HB.out _).setCell (Nat.le_refl _) _⟩
            case measure => simp [intOf]
          | false =>
            rw [hg] at hgs
            have HG := Hid.mk' hgs
            rw [Hid, ls_S hgs] at HD
            clear hgs hg hc H1 H2 he
            go_wp2
            go_quiet (fail)
            go_wp2
            go_roundw
            case rel => exact ⟨m, _, _, by omega, by go_num, rfl, fun _ => HG.out.symm, fun h => absurd h (by omega), HD, OwnB.put (OwnV.drewN HO.out _) m 83, (below_drewN HB.out _).setCell (Nat.le_refl _) _⟩
            case measure => simp [intOf]
        · have hbe : (xs[m] != xs[m + 1]) = true := by simp [he]
          have hgs := gt_other hlast he
          by_cases hv : xs[m + 1] < xs[m]
          · rw [decide_eq_true hv] at hgs
            have HG := Hid.mk' hgs
            rw [Hid, ls_L hgs] at HD
            generalize gt xs (m + 1) = F
            clear hgs hc H1 H2 he
            go_wp2
            go_quiet (fail)
            go_wp2
            go_quiet (fail)
            go_wp2
            go_roundw
            case rel => exact ⟨m, _, _, by omega, by go_num, rfl, fun _ => HG.out.symm, fun h => absurd h (by omega), HD, OwnB.put (OwnV.drewN HO.out _) m 76, (below_drewN HB.out _).setCell (Nat.le_refl _) _⟩
            case measure => simp [intOf]
          · rw [decide_eq_false hv] at hgs
            have HG := Hid.mk' hgs
            rw [Hid, ls_S hgs] at HD
            generalize gt xs (m + 1) = F
            clear hgs hc H1 H2 he
            go_wp2
            go_quiet (fail)
            go_wp2
            go_quiet (fail)
            go_wp2
            go_roundw
            case rel => exact ⟨m, _, _, by omega, by go_num, rfl, fun _ => by rw [HG.out]; exact decide_eq_false (by omega), fun h => absurd h (by omega), HD, OwnB.put (OwnV.drewN HO.out _) m 83, (below_drewN HB.out _).setCell (Nat.le_refl _) _⟩
            case measure => simp [intOf]
      · obtain rfl : F = true := H2.out (by omega)
        have hd : decide ((m : Int) + 1 < (xs.length : Int)) = false := decide_eq_false (by omega)
        have HG := Hid.mk' (gt_last (xs := xs) (i := m) (by omega))
        rw [Hid, ls_L HG.out] at HD
        clear hc H1 H2
        go_wp2
        go_quiet (fail)
        go_wp2
        go_roundw
        case rel => exact ⟨m, _, _, by omega, by go_num, rfl, fun _ => HG.out.symm, fun h => absurd h (by omega), HD, OwnB.put (OwnV.drewN HO.out _) m 76, (below_drewN HB.out _).setCell (Nat.le_refl _) _⟩
        case measure => simp [intOf]

set_option maxHeartbeats 400000 in
theorem kindsErr_any (a : Option Addr) (cap : Nat) (xs : List Int) (k : Int) (w : World) (hr : Rd w a xs) (hl : xs.length ≤ maxLen) (h : scanE xs k ≠ 0) :
    Calls Try.prog 25 #[.slice a xs.length cap, .int .i64 k] w fun e w' => e = .returned (.tuple #[.string ByteArray.empty, .int .i64 (scanE xs k)]) ∧ w' = w := by
  have hb : (scanE xs k != 0) = true := by simpa using h
  clear h
  go_enter Try.func25, Try.ntmps25
  go_wp2_with (go_at_call 44; refine (fault_any a cap xs k _ hr hl).mono ?_; rintro e w' ⟨rfl, rfl⟩)
  go_ret2
  exact ⟨rfl, rfl⟩

set_option maxHeartbeats 400000 in
theorem kindsOk_any (a : Option Addr) (cap : Nat) (xs : List Int) (k : Int) (w : World) (hr : Rd w a xs) (hl : xs.length ≤ 1073741824) (h : scanE xs k = 0) :
    Calls Try.prog 25 #[.slice a xs.length cap, .int .i64 k] w fun e w' => e = .returned (.tuple #[.string (strOfNums (kindsL xs)), .int .i64 0]) ∧ Below w.heap.size w w' := by
  have hml : xs.length ≤ maxLen := by unfold maxLen; omega
  have hb : (scanE xs k != 0) = false := by simpa using h
  clear h
  go_enter Try.func25, Try.ntmps25
  go_wp2_with (first | (go_at_call 44; refine (fault_any a cap xs k _ hr hml).mono ?_; rintro e w' ⟨rfl, rfl⟩) | (go_at_call 51; refine (textsKinds_any a cap xs _ hr hl).mono ?_; rintro e w' ⟨rfl, hbw⟩))
  go_ret2
  exact ⟨rfl, hbw⟩

end Go.Proofs.Ytdhehffdddbmbaa
