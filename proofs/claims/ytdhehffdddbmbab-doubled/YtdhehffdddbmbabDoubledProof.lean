import Derived.Test.YtdhehffdddbmbabLaw
import Derived.Test.YtdhehffdddbmbabKeep
import Derived.Test.YtdhehffdddbmbabRanks
import Derived.Test.YtdhehffdddbmbabRows
import Derived.WalkKit
import Derived.ProofKit
import Derived.OpenShut
import Derived.ShutString
import Derived.ChangeOld
import Derived.Below
namespace Go.Proofs.Ytdhehffdddbmbab.doubled
open Go.ChangeShapes Go.WideShapes Go.ChangeAt Go.RowKit
open Go.Proofs.Ytdhehffdddbmbab
open Go.ChangeMaps (open_string shut_string)
set_option linter.unusedVariables false

theorem own : ownKnob Try.prog.godebug = none := by kernel_rfl
theorem laidOut : laidOutB Try.prog = true := by kernel_rfl


def IsRow (k : IntKind) (w : World) (a : Option Addr) (len cap : Nat) (zs : List Int) : Prop :=
  (a = none ∧ len = 0 ∧ cap = 0 ∧ zs = []) ∨
  ∃ x, a = some x ∧ len ≤ cap ∧ cap ≤ maxLen ∧ zs.length = cap ∧ (∀ i, i < zs.length → w.cell? (x.add i) = some (.int k (zs.getD i 0))) ∧ ∀ n ∈ zs, (Lit.int k n).wf = true


set_option maxHeartbeats 8000000 in
set_option maxRecDepth 100000 in
theorem walk (a0 : Option Addr) (len0 cap0 : Nat) (z0 : List Int) (a1 : Int) (a2 : Int) (w : World) (w0 : IsRow .i64 w a0 len0 cap0 z0) (w1 : (Lit.int .i64 a1).wf = true) (w2 : (Lit.int .i64 a2).wf = true) :
    Calls Try.prog 6 #[.slice a0 len0 cap0, .int .i64 a1, .int .i64 a2] w fun e w' => e = .returned (.bool true) ∧ Below w.heap.size w w' := by
  obtain ⟨xs, rfl, hr, hl, hx⟩ := rd_of_row w0
  have hg : -9223372036854775808 ≤ a1 ∧ a1 ≤ 9223372036854775807 := wf_range w1
  have hh : -9223372036854775808 ≤ a2 ∧ a2 ≤ 9223372036854775807 := wf_range w2
  have HSC := Hid.mk' (someOf_scan xs)
  have htl := someOf_le xs
  have hx40 := pk_lt a1 (n := 40) (by omega)
  have hy40 := pk_lt a2 (n := 40) (by omega)
  have HG := Hid.mk' hg
  have HH := Hid.mk' hh
  clear hg hh
  go_enter Try.func6, Try.ntmps6
  go_wp2_with fail
  refine (some_any _ _ xs _ hr hl hx).mono ?_
  rintro e v1 ⟨r, rfl, hown1, hb1⟩
  generalize someOf xs = ts at HSC htl hown1 ⊢
  obtain ⟨T, cT, rfl, hrT, -, hTc, hTm⟩ := owns_slice hown1
  clear hown1
  go_wp2_with fail
  refine (pick_any a1 40 _ HG.out (by omega) (by omega)).mono ?_
  rintro e v2 ⟨rfl, rfl⟩
  go_wp2_with fail
  refine (pick_any a2 40 _ HH.out (by omega) (by omega)).mono ?_
  rintro e v2 ⟨rfl, rfl⟩
  generalize pk a1 40 = x at hx40 ⊢
  generalize pk a2 40 = y at hy40 ⊢
  go_wp2_with fail
  refine (ranksOk_any _ _ ts 60 x _ hrT hTc HSC.out).mono ?_
  rintro e v3 ⟨ra, rfl, hownA, hb3⟩
  obtain ⟨A, cA, rfl, hrA, hAl, -, -⟩ := owns_slice hownA
  have hrT3 := hrT.below hb3
  go_wp2_with fail
  refine (ranksOk_any _ _ ts 60 y _ hrT3 hTc HSC.out).mono ?_
  rintro e v4 ⟨rb, rfl, hownB, hb4⟩
  obtain ⟨B, cB, rfl, hrB, hBl, -, -⟩ := owns_slice hownB
  have hrT4 := hrT3.below hb4
  have hrA4 := hrA.below hb4
  have HRC := Hid.mk' (ranksOk_any T cT ts 60 (x + y) v4 hrT4 hTc HSC.out)
  go_wp2_with fail
  refine HRC.out.mono ?_
  rintro e v5 ⟨rc, rfl, hownC, hb5⟩
  obtain ⟨C, cC, rfl, hrC, hCl, -, -⟩ := owns_slice hownC
  have hrA5 := hrA4.below hb5
  have hrB5 := hrB.below hb5
  have HBel := Hid.mk' (show Below w.heap.size w v5 from hb1.trans ((hb3.trans ((hb4.trans (hb5.mono hb4.size)).mono hb3.size)).mono hb1.size))
  have HLA := Hid.mk' (ranks_length ts x)
  have HLB := Hid.mk' (ranks_length ts y)
  have HLC := Hid.mk' (ranks_length ts (x + y))
  clear hownA hownB hownC hb1 hb3 hb4 hb5 hrT hrT3 hrT4 hrA hrA4 hrB hAl hBl hCl HRC HSC
  go_wp2
  go_loopw [16] (fun i wr => ∃ (n q : Nat), n ≤ ts.length ∧ i = .int .i64 n ∧ Hid (wr = v5.drewN q)) (fun i _ => ts.length - (intOf i).toNat)
  case atStart => exact ⟨0, 0, Nat.zero_le _, rfl, rfl⟩
  case round =>
    obtain ⟨n, q, hn, rfl, HW⟩ := hrel
    by_cases hlt : n < ts.length
    · go_wp2
      go_loopw [17, 18] (fun c j wr => ∃ (m q : Nat), m ≤ ts.length ∧ j = .int .i64 m ∧ c = .int .i64 (rkTo ts (x + y) n m) ∧ Hid (wr = v5.drewN q)) (fun _ j _ => ts.length - (intOf j).toNat)
      case atStart => exact ⟨0, q, Nat.zero_le _, rfl, rfl, HW⟩
      case round =>
        clear HW q
        obtain ⟨m, q, hm, rfl, rfl, HW⟩ := hrel
        have hrkl := rkTo_le ts (x + y) n m
        by_cases hml : m < ts.length
        · have hA1 : Rd wr A (ranks ts x) := by rw [HW.out]; exact hrA5
          have hB1 : Rd wr B (ranks ts y) := by rw [HW.out]; exact hrB5
          have hnA : n < (ranks ts x).length := by rw [HLA.out]; exact hlt
          have hmA : m < (ranks ts x).length := by rw [HLA.out]; exact hml
          have hnB : n < (ranks ts y).length := by rw [HLB.out]; exact hlt
          obtain ⟨bA, oA, rfl, hbA, hcA⟩ := hA1.at hnA
          obtain ⟨bB, oB, rfl, hbB, hcB⟩ := hB1.at hnB
          have hc1 := hcA n hnA
          have hc2 := hcA m hmA
          rw [ranks_at ts x n hlt] at hc1
          rw [ranks_at ts x m hml] at hc2
          have hcBp : ∀ k, k < ts.length → wr.cell? ⟨bB, oB + k, none⟩ = some (.int .i64 (pr ts y k)) := fun k hk => by
            rw [hcB k (by rw [HLB.out]; exact hk), ranks_at ts y k hk, pr_in hk]
          have hd := dbl_iff (x := x) (y := y) hlt hml
          generalize rk ts x n = An at hc1 hd
          generalize rk ts x m = Am at hc2 hd
          generalize hP : pr ts y (n + x) = P at hd
          generalize hQ : pr ts y (m + x) = Q at hd
          have HP := Hid.mk' hP
          have HQ := Hid.mk' hQ
          have HD := Hid.mk' hd
          clear hcA hcB hA1 hB1 hnA hmA hnB hd hP hQ
          by_cases h1 : n + x < ts.length
          · have hcP := hcBp (n + x) h1
            rw [HP.out] at hcP
            by_cases h2 : m + x < ts.length
            · have hcQ := hcBp (m + x) h2
              rw [HQ.out] at hcQ
              clear hcBp
              by_cases g1 : Am < An
              · have d1 : decide ((Am : Int) < (An : Int)) = true := decide_eq_true (by omega)
                have HS := Hid.mk' (rkTo_yes (HD.out.2 (.inl g1)))
                clear HD
                go_wp2
                go_quiet (fail)
                go_wp2
                go_roundw
                case rel => exact ⟨m + 1, _, by omega, by go_num, by rw [HS.out]; go_num, by rw [HW.out, World.drewN_drewN]; rfl⟩
                case measure => simp [intOf]; omega
              · have d1 : decide ((Am : Int) < (An : Int)) = false := decide_eq_false (by omega)
                by_cases g2 : Am = An
                · have d2 : ((Am : Int) == (An : Int)) = true := by simp [g2]
                  have G2 := Hid.mk' g2
                  clear g2
                  by_cases g3 : 0 < y
                  · have d3 : decide ((0 : Int) < (y : Int)) = true := decide_eq_true (by omega)
                    by_cases g4 : Q < P
                    · have d4 : decide (Q < P) = true := decide_eq_true g4
                      have HS := Hid.mk' (rkTo_yes (HD.out.2 (.inr ⟨G2.out, g3, g4⟩)))
                      clear HD
                      go_wp2
                      go_quiet (fail)
                      go_wp2
                      go_roundw
                      case rel => exact ⟨m + 1, _, by omega, by go_num, by rw [HS.out]; go_num, by rw [HW.out, World.drewN_drewN]; rfl⟩
                      case measure => simp [intOf]; omega
                    · have d4 : decide (Q < P) = false := decide_eq_false g4
                      have HS := Hid.mk' (rkTo_no (xs := ts) (h := x + y) (i := n) (j := m) (by cases hq : lt (fst ts m (x + y)) (fst ts n (x + y)) with | false => rfl | true => exact absurd (HD.out.1 hq) (fun h => h.elim (fun h => g1 h) (fun h => g4 h.2.2))))
                      clear HD
                      go_wp2
                      go_quiet (fail)
                      go_wp2
                      go_roundw
                      case rel => exact ⟨m + 1, _, by omega, by go_num, by rw [HS.out], by rw [HW.out, World.drewN_drewN]; rfl⟩
                      case measure => simp [intOf]; omega
                  · have d3 : decide ((0 : Int) < (y : Int)) = false := decide_eq_false (by omega)
                    have HS := Hid.mk' (rkTo_no (xs := ts) (h := x + y) (i := n) (j := m) (by cases hq : lt (fst ts m (x + y)) (fst ts n (x + y)) with | false => rfl | true => exact absurd (HD.out.1 hq) (fun h => h.elim (fun h => g1 h) (fun h => g3 h.2.1))))
                    clear HD
                    go_wp2
                    go_quiet (fail)
                    go_wp2
                    go_roundw
                    case rel => exact ⟨m + 1, _, by omega, by go_num, by rw [HS.out], by rw [HW.out, World.drewN_drewN]; rfl⟩
                    case measure => simp [intOf]; omega
                · have d2 : ((Am : Int) == (An : Int)) = false := by simp; omega
                  have HS := Hid.mk' (rkTo_no (xs := ts) (h := x + y) (i := n) (j := m) (by cases hq : lt (fst ts m (x + y)) (fst ts n (x + y)) with | false => rfl | true => exact absurd (HD.out.1 hq) (fun h => h.elim (fun h => g1 h) (fun h => g2 h.1))))
                  clear HD
                  go_wp2
                  go_quiet (fail)
                  go_wp2
                  go_roundw
                  case rel => exact ⟨m + 1, _, by omega, by go_num, by rw [HS.out], by rw [HW.out, World.drewN_drewN]; rfl⟩
                  case measure => simp [intOf]; omega
            · obtain rfl : Q = -1 := by rw [← HQ.out]; exact pr_out h2
              clear hcBp
              by_cases g1 : Am < An
              · have d1 : decide ((Am : Int) < (An : Int)) = true := decide_eq_true (by omega)
                have HS := Hid.mk' (rkTo_yes (HD.out.2 (.inl g1)))
                clear HD
                go_wp2
                go_quiet (fail)
                go_wp2
                go_roundw
                case rel => exact ⟨m + 1, _, by omega, by go_num, by rw [HS.out]; go_num, by rw [HW.out, World.drewN_drewN]; rfl⟩
                case measure => simp [intOf]; omega
              · have d1 : decide ((Am : Int) < (An : Int)) = false := decide_eq_false (by omega)
                by_cases g2 : Am = An
                · have d2 : ((Am : Int) == (An : Int)) = true := by simp [g2]
                  have G2 := Hid.mk' g2
                  clear g2
                  by_cases g3 : 0 < y
                  · have d3 : decide ((0 : Int) < (y : Int)) = true := decide_eq_true (by omega)
                    by_cases g4 : (-1 : Int) < P
                    · have d4 : decide ((-1 : Int) < P) = true := decide_eq_true g4
                      have HS := Hid.mk' (rkTo_yes (HD.out.2 (.inr ⟨G2.out, g3, g4⟩)))
                      clear HD
                      go_wp2
                      go_quiet (fail)
                      go_wp2
                      go_roundw
                      case rel => exact ⟨m + 1, _, by omega, by go_num, by rw [HS.out]; go_num, by rw [HW.out, World.drewN_drewN]; rfl⟩
                      case measure => simp [intOf]; omega
                    · have d4 : decide ((-1 : Int) < P) = false := decide_eq_false g4
                      have HS := Hid.mk' (rkTo_no (xs := ts) (h := x + y) (i := n) (j := m) (by cases hq : lt (fst ts m (x + y)) (fst ts n (x + y)) with | false => rfl | true => exact absurd (HD.out.1 hq) (fun h => h.elim (fun h => g1 h) (fun h => g4 h.2.2))))
                      clear HD
                      go_wp2
                      go_quiet (fail)
                      go_wp2
                      go_roundw
                      case rel => exact ⟨m + 1, _, by omega, by go_num, by rw [HS.out], by rw [HW.out, World.drewN_drewN]; rfl⟩
                      case measure => simp [intOf]; omega
                  · have d3 : decide ((0 : Int) < (y : Int)) = false := decide_eq_false (by omega)
                    have HS := Hid.mk' (rkTo_no (xs := ts) (h := x + y) (i := n) (j := m) (by cases hq : lt (fst ts m (x + y)) (fst ts n (x + y)) with | false => rfl | true => exact absurd (HD.out.1 hq) (fun h => h.elim (fun h => g1 h) (fun h => g3 h.2.1))))
                    clear HD
                    go_wp2
                    go_quiet (fail)
                    go_wp2
                    go_roundw
                    case rel => exact ⟨m + 1, _, by omega, by go_num, by rw [HS.out], by rw [HW.out, World.drewN_drewN]; rfl⟩
                    case measure => simp [intOf]; omega
                · have d2 : ((Am : Int) == (An : Int)) = false := by simp; omega
                  have HS := Hid.mk' (rkTo_no (xs := ts) (h := x + y) (i := n) (j := m) (by cases hq : lt (fst ts m (x + y)) (fst ts n (x + y)) with | false => rfl | true => exact absurd (HD.out.1 hq) (fun h => h.elim (fun h => g1 h) (fun h => g2 h.1))))
                  clear HD
                  go_wp2
                  go_quiet (fail)
                  go_wp2
                  go_roundw
                  case rel => exact ⟨m + 1, _, by omega, by go_num, by rw [HS.out], by rw [HW.out, World.drewN_drewN]; rfl⟩
                  case measure => simp [intOf]; omega
          · obtain rfl : P = -1 := by rw [← HP.out]; exact pr_out h1
            by_cases h2 : m + x < ts.length
            · have hcQ := hcBp (m + x) h2
              rw [HQ.out] at hcQ
              clear hcBp
              by_cases g1 : Am < An
              · have d1 : decide ((Am : Int) < (An : Int)) = true := decide_eq_true (by omega)
                have HS := Hid.mk' (rkTo_yes (HD.out.2 (.inl g1)))
                clear HD
                go_wp2
                go_quiet (fail)
                go_wp2
                go_roundw
                case rel => exact ⟨m + 1, _, by omega, by go_num, by rw [HS.out]; go_num, by rw [HW.out, World.drewN_drewN]; rfl⟩
                case measure => simp [intOf]; omega
              · have d1 : decide ((Am : Int) < (An : Int)) = false := decide_eq_false (by omega)
                by_cases g2 : Am = An
                · have d2 : ((Am : Int) == (An : Int)) = true := by simp [g2]
                  have G2 := Hid.mk' g2
                  clear g2
                  by_cases g3 : 0 < y
                  · have d3 : decide ((0 : Int) < (y : Int)) = true := decide_eq_true (by omega)
                    by_cases g4 : Q < (-1 : Int)
                    · have d4 : decide (Q < (-1 : Int)) = true := decide_eq_true g4
                      have HS := Hid.mk' (rkTo_yes (HD.out.2 (.inr ⟨G2.out, g3, g4⟩)))
                      clear HD
                      go_wp2
                      go_quiet (fail)
                      go_wp2
                      go_roundw
                      case rel => exact ⟨m + 1, _, by omega, by go_num, by rw [HS.out]; go_num, by rw [HW.out, World.drewN_drewN]; rfl⟩
                      case measure => simp [intOf]; omega
                    · have d4 : decide (Q < (-1 : Int)) = false := decide_eq_false g4
                      have HS := Hid.mk' (rkTo_no (xs := ts) (h := x + y) (i := n) (j := m) (by cases hq : lt (fst ts m (x + y)) (fst ts n (x + y)) with | false => rfl | true => exact absurd (HD.out.1 hq) (fun h => h.elim (fun h => g1 h) (fun h => g4 h.2.2))))
                      clear HD
                      go_wp2
                      go_quiet (fail)
                      go_wp2
                      go_roundw
                      case rel => exact ⟨m + 1, _, by omega, by go_num, by rw [HS.out], by rw [HW.out, World.drewN_drewN]; rfl⟩
                      case measure => simp [intOf]; omega
                  · have d3 : decide ((0 : Int) < (y : Int)) = false := decide_eq_false (by omega)
                    have HS := Hid.mk' (rkTo_no (xs := ts) (h := x + y) (i := n) (j := m) (by cases hq : lt (fst ts m (x + y)) (fst ts n (x + y)) with | false => rfl | true => exact absurd (HD.out.1 hq) (fun h => h.elim (fun h => g1 h) (fun h => g3 h.2.1))))
                    clear HD
                    go_wp2
                    go_quiet (fail)
                    go_wp2
                    go_roundw
                    case rel => exact ⟨m + 1, _, by omega, by go_num, by rw [HS.out], by rw [HW.out, World.drewN_drewN]; rfl⟩
                    case measure => simp [intOf]; omega
                · have d2 : ((Am : Int) == (An : Int)) = false := by simp; omega
                  have HS := Hid.mk' (rkTo_no (xs := ts) (h := x + y) (i := n) (j := m) (by cases hq : lt (fst ts m (x + y)) (fst ts n (x + y)) with | false => rfl | true => exact absurd (HD.out.1 hq) (fun h => h.elim (fun h => g1 h) (fun h => g2 h.1))))
                  clear HD
                  go_wp2
                  go_quiet (fail)
                  go_wp2
                  go_roundw
                  case rel => exact ⟨m + 1, _, by omega, by go_num, by rw [HS.out], by rw [HW.out, World.drewN_drewN]; rfl⟩
                  case measure => simp [intOf]; omega
            · obtain rfl : Q = -1 := by rw [← HQ.out]; exact pr_out h2
              clear hcBp
              by_cases g1 : Am < An
              · have d1 : decide ((Am : Int) < (An : Int)) = true := decide_eq_true (by omega)
                have HS := Hid.mk' (rkTo_yes (HD.out.2 (.inl g1)))
                clear HD
                go_wp2
                go_quiet (fail)
                go_wp2
                go_roundw
                case rel => exact ⟨m + 1, _, by omega, by go_num, by rw [HS.out]; go_num, by rw [HW.out, World.drewN_drewN]; rfl⟩
                case measure => simp [intOf]; omega
              · have d1 : decide ((Am : Int) < (An : Int)) = false := decide_eq_false (by omega)
                by_cases g2 : Am = An
                · have d2 : ((Am : Int) == (An : Int)) = true := by simp [g2]
                  have G2 := Hid.mk' g2
                  clear g2
                  by_cases g3 : 0 < y
                  · have d3 : decide ((0 : Int) < (y : Int)) = true := decide_eq_true (by omega)
                    by_cases g4 : (-1 : Int) < -1
                    · exact absurd g4 (by omega)
                    · have d4 : decide ((-1 : Int) < (-1 : Int)) = false := decide_eq_false g4
                      have HS := Hid.mk' (rkTo_no (xs := ts) (h := x + y) (i := n) (j := m) (by cases hq : lt (fst ts m (x + y)) (fst ts n (x + y)) with | false => rfl | true => exact absurd (HD.out.1 hq) (fun h => h.elim (fun h => g1 h) (fun h => g4 h.2.2))))
                      clear HD
                      go_wp2
                      go_quiet (fail)
                      go_wp2
                      go_roundw
                      case rel => exact ⟨m + 1, _, by omega, by go_num, by rw [HS.out], by rw [HW.out, World.drewN_drewN]; rfl⟩
                      case measure => simp [intOf]; omega
                  · have d3 : decide ((0 : Int) < (y : Int)) = false := decide_eq_false (by omega)
                    have HS := Hid.mk' (rkTo_no (xs := ts) (h := x + y) (i := n) (j := m) (by cases hq : lt (fst ts m (x + y)) (fst ts n (x + y)) with | false => rfl | true => exact absurd (HD.out.1 hq) (fun h => h.elim (fun h => g1 h) (fun h => g3 h.2.1))))
                    clear HD
                    go_wp2
                    go_quiet (fail)
                    go_wp2
                    go_roundw
                    case rel => exact ⟨m + 1, _, by omega, by go_num, by rw [HS.out], by rw [HW.out, World.drewN_drewN]; rfl⟩
                    case measure => simp [intOf]; omega
                · have d2 : ((Am : Int) == (An : Int)) = false := by simp; omega
                  have HS := Hid.mk' (rkTo_no (xs := ts) (h := x + y) (i := n) (j := m) (by cases hq : lt (fst ts m (x + y)) (fst ts n (x + y)) with | false => rfl | true => exact absurd (HD.out.1 hq) (fun h => h.elim (fun h => g1 h) (fun h => g2 h.1))))
                  clear HD
                  go_wp2
                  go_quiet (fail)
                  go_wp2
                  go_roundw
                  case rel => exact ⟨m + 1, _, by omega, by go_num, by rw [HS.out], by rw [HW.out, World.drewN_drewN]; rfl⟩
                  case measure => simp [intOf]; omega
        · obtain rfl : m = ts.length := by omega
          have hC1 : Rd wr C (ranks ts (x + y)) := by rw [HW.out]; exact hrC
          have hnC : n < (ranks ts (x + y)).length := by rw [HLC.out]; exact hlt
          obtain ⟨bC, oC, rfl, hbC, hcC⟩ := hC1.at hnC
          have hc3 := hcC n hnC
          rw [ranks_at ts (x + y) n hlt, ← rkTo_all] at hc3
          clear hcC hC1 hnC
          go_wp2
          go_roundw
          case rel => exact ⟨n + 1, q, by omega, by go_num, HW⟩
          case measure => simp [intOf]; omega
    · go_wp2
      go_ret
      exact ⟨rfl, by rw [HW.out]; exact below_drewN HBel.out q⟩


set_option maxRecDepth 100000 in
theorem lifted (os : Os) (started : os.Started) (H : Type) (enc : TypeId × Value → H) :
    ReturnsInHanded {} Try.checked os 6 .any (Rows.doubledSpec.pre6 enc Try.prog Try.f6 Rows.doubledRow.domain false) (Rows.doubledSpec.post enc Try.prog Try.f6 false true false false) := by
  refine returnsInHanded_of_change (C := Try.checked) own started (by kernel_rfl) Try.func6
    (ChangeSpec.witness6 (enc := enc) (C := Try.checked) false ⟨#[], #[.slice none 0 0, .int .i64 0, .int .i64 0], []⟩ 8 (by kernel_rfl) (by kernel_rfl) (by kernel_rfl) (by kernel_rfl)) ?_
  intro W base args ds gs before hval0 hW hcnd _
  have hval : ∀ (j : Nat) t v, Try.f6.params[j]? = some t → args[j]? = some v → Value.okWide Try.prog W .any base t v := hval0
  have hW' := hW
  obtain ⟨p, q, hA0, hV, rfl, hfz, hnd⟩ := hW
  have hA : DataW.TrodAll enc Try.prog W 0 (fun _ => true) true Try.f6.params.toList args.toList ds p := hA0
  rw [Try.params6] at hA hval
  obtain ⟨v0, vs0, d0, ds0, p0, q0, hargs, rfl, rfl, h0, r0⟩ := trodAll_cons hA
  obtain ⟨v1, vs1, d1, ds1, p1, q1, rfl, rfl, rfl, h1, r1⟩ := trodAll_cons r0
  obtain ⟨v2, vs2, d2, ds2, p2, q2, rfl, rfl, rfl, h2, r2⟩ := trodAll_cons r1
  obtain ⟨rfl, rfl, rfl⟩ := trodAll_nil r2
  obtain rfl : args = #[v0, v1, v2] := by cases args; simp_all
  obtain ⟨rfl, rfl⟩ := trodVars_none hV
  obtain ⟨a0, len0, cap0, rfl⟩ := okWide_slice Try.underlying22 (hval 0 22 v0 rfl rfl)
  have k0 := h0
  have lt0 : ∀ x ∈ p0, x.block < W.heap.size := by obtain ⟨m, hm⟩ := k0; exact DataW.trod_lt m _ _ _ hm
  obtain ⟨z0, w0⟩ : ∃ zs, IsRow .i64 W a0 len0 cap0 zs := by
    obtain ⟨fuel, hf⟩ := h0
    rcases open_ints Try.underlying22 Try.underlying3 (by kernel_rfl) hf with ⟨hcs, _⟩ | ⟨x, l, c, zs, hcs, _, hl, hm, hz, _, hcell, hwz⟩
    · simp [Value.cells] at hcs
      obtain ⟨rfl, rfl, rfl⟩ := hcs
      exact ⟨[], .inl ⟨rfl, rfl, rfl, rfl⟩⟩
    · simp [Value.cells] at hcs
      obtain ⟨rfl, rfl, rfl⟩ := hcs
      exact ⟨zs, .inr ⟨_, rfl, hl, hm, by simpa using hz, hcell, hwz⟩⟩
  obtain ⟨a1, rfl, rfl, rfl, w1⟩ := open_int Try.underlying3 (hval 1 3 v1 rfl rfl) h1
  obtain ⟨a2, rfl, rfl, rfl, w2⟩ := open_int Try.underlying3 (hval 2 3 v2 rfl rfl) h2
  clear hA0 hval0
  refine (walk a0 len0 cap0 z0 a1 a2 W w0 w1 w2).mono fun e W' ⟨he, bel⟩ => ?_
  subst he
  exact ⟨_, rfl, _, _, _, [], _, [], hW', trodAll_mk1 (shut_bool Try.underlying4 _), (trodAll_cons_mk (Below.trod laidOut (by kernel_rfl) (of_decide_eq_true (by kernel_rfl)) k0 bel lt0) (trodAll_cons_mk (shut_int Try.underlying3 w1) (trodAll_cons_mk (shut_int Try.underlying3 w2) trodAll_mk0))), rfl, bel.frame _, fun h => by cases h⟩

theorem over : Rows.doubledRow.holds Try.pinned (OpenSpec.ofChange Rows.doubledSpec) :=
  OpenClaim.holds_of_wide 6 Try.f6 rfl rfl rfl rfl rfl rfl rfl ⟨rfl, rfl, rfl, rfl, rfl⟩ rfl rfl rfl rfl rfl (by kernel_rfl) Try.func6 (by kernel_rfl)
    (of_decide_eq_true (by kernel_rfl)) (by unfold Func.isWrapper; first | (rw [if_pos (by decide +kernel)]; kernel_rfl) | (rw [if_neg (by decide +kernel)]; exact ⟨rfl, rfl⟩))
    (fun os started H enc _ => lifted os started H enc)


theorem proved : Rows.DoubledSaid := over
end Go.Proofs.Ytdhehffdddbmbab.doubled

namespace Go.Proofs.Ytdhehffdddbmbab
theorem doubled_holds : Rows.DoubledSaid := doubled.proved
#print axioms doubled_holds
end Go.Proofs.Ytdhehffdddbmbab
