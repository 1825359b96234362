import Derived.Test.YtdhehffdddbmbabLaw
import Derived.Test.YtdhehffdddbmbabKeepLift
import Derived.Test.YtdhehffdddbmbabBuild
import Derived.Test.YtdhehffdddbmbabRows
import Derived.WalkKit
import Derived.ProofKit
import Derived.OpenShut
import Derived.ShutString
import Derived.ChangeOld
import Derived.Below
namespace Go.Proofs.Ytdhehffdddbmbab.lifted
open Go.ChangeShapes Go.WideShapes Go.ChangeAt Go.RowKit
open Go.Proofs.Ytdhehffdddbmbab
open Go.ChangeMaps (open_string shut_string)
set_option linter.unusedVariables false

theorem own : ownKnob Try.prog.godebug = none := by kernel_rfl
theorem laidOut : laidOutB Try.prog = true := by kernel_rfl


def IsRow (k : IntKind) (w : World) (a : Option Addr) (len cap : Nat) (zs : List Int) : Prop :=
  (a = none ∧ len = 0 ∧ cap = 0 ∧ zs = []) ∨
  ∃ x, a = some x ∧ len ≤ cap ∧ cap ≤ maxLen ∧ zs.length = cap ∧ (∀ i, i < zs.length → w.cell? (x.add i) = some (.int k (zs.getD i 0))) ∧ ∀ n ∈ zs, (Lit.int k n).wf = true


set_option maxHeartbeats 8000000 in
set_option maxRecDepth 100000 in
theorem walk (a0 : Option Addr) (len0 cap0 : Nat) (z0 : List Int) (a1 : Int) (w : World) (w0 : IsRow .i64 w a0 len0 cap0 z0) (w1 : (Lit.int .i64 a1).wf = true) :
    Calls Try.prog 7 #[.slice a0 len0 cap0, .int .i64 a1] w fun e w' => e = .returned (.bool true) ∧ Below w.heap.size w w' := by
  obtain ⟨xs, rfl, hr, hl, hx⟩ := rd_of_row w0
  have HG1 := Hid.mk' (wf_range w1)
  have HSC := Hid.mk' (someOf_scan xs)
  have htl := someOf_le xs
  have hw3 := pk_lt a1 (n := 3) (by omega)
  have HP := Hid.mk' (fun W => pick_any a1 3 W HG1.out (by omega) (by omega))
  have HBd := Hid.mk' (buildAnys (pk a1 3) hw3)
  have HKB := Hid.mk' (fun (a : Option Addr) (cap : Nat) (ts : List Int) (W : World) (h1 : Rd W a ts) (h2 : ts.length ≤ cap) (h3 : cap ≤ 9223372036854775807) (h4 : scanE ts 60 = 0) => kbuilt_any buildAnys a cap ts a1 0 W h1 h2 h3 h4 HG1.out (by omega))
  clear HG1
  go_enter Try.func7, Try.ntmps7
  go_wp2_with fail
  refine (some_any _ _ xs _ hr hl hx).mono ?_
  rintro e v1 ⟨r, rfl, hown1, hb1⟩
  generalize someOf xs = ts at HSC htl hown1 ⊢
  obtain ⟨T, cT, rfl, hrT, -, hTc, hTm⟩ := owns_slice hown1
  clear hown1
  have hmh := marks_half ts
  go_wp2_with fail
  refine (reduceOk_any _ _ ts _ _ hrT hTc hTm HSC.out).mono ?_
  rintro e v2 ⟨vm, vn, rfl, howm, hown, -, hb2⟩
  obtain ⟨M, cM, rfl, hrM, -, -, -⟩ := owns_slice howm
  obtain ⟨Nn, cN, rfl, hrN, -, hNc, hNm⟩ := owns_slice hown
  clear howm hown
  have hnl : (names ts).length = (marks ts).length := names_length ts
  have HNS := Hid.mk' (names_scan (ts := ts) (by omega))
  rw [hnl] at hNc ⊢
  have HB2 : Hid (Below w.heap.size w v2) := hb1.trans (hb2.mono hb1.size)
  have hrT2 := hrT.below hb2
  clear hrT hb1 hb2
  go_wp2_with fail
  refine (HP.out _).mono ?_
  rintro e v3 ⟨rfl, rfl⟩
  generalize pk a1 3 = wy at HBd hw3 HP ⊢
  have hbb := HBd.out Nn cN (names ts) 96 0 false v3 hrN (by omega) hNm HNS.out (by omega) (by omega)
  rw [hnl] at hbb
  have HBB := Hid.mk' hbb
  clear hbb HBd HP
  go_wp2_with fail
  refine HBB.out.mono ?_
  rintro e v4 ⟨gr, vo, vs, N, zr, rfl, hA⟩
  have hAo := hA.own
  rw [hnl] at hAo
  obtain ⟨A, cA, rfl, hrA, hAl, -, -⟩ := owns_slice hAo
  have HN := Hid.mk' hA.ord
  have HB4 : Hid (Below w.heap.size w v4) := HB2.out.trans (hA.below.mono HB2.out.size)
  have hrT4 := hrT2.below hA.below
  have hrM4 := hrM.below hA.below
  have HR4 := Hid.mk' (And.intro hA.at0 hA.ptr.2)
  have HAl := Hid.mk' hAl
  clear hA hAo hAl hrT2 hrM hrN HBB HB2
  go_wp2_with fail
  refine (HKB.out _ _ ts _ hrT4 hTc hTm HSC.out).mono ?_
  rintro e v5 ⟨gw, wo, ws, L, zw, rfl, hW⟩
  obtain ⟨B, cB, rfl, hrB, hBl, -, -⟩ := owns_slice hW.own
  have HL := Hid.mk' hW.ord
  have HB5 : Hid (Below w.heap.size w v5) := HB4.out.trans (hW.below.mono HB4.out.size)
  have hrT5 := hrT4.below hW.below
  have hrM5 := hrM4.below hW.below
  have hrA5 := hrA.below hW.below
  have c0 := (hW.below.cell (p := ⟨gr, 0, none⟩) HR4.out.2).trans HR4.out.1
  have c1 := hW.at0
  have HBl := Hid.mk' hBl
  have HC := Hid.mk' (And.intro c0 c1)
  clear hW hBl hrT4 hrM4 hrA HR4 HKB HB4
  go_wp2
  go_loopw [13, 14] (fun at' i wr => ∃ n m q : Nat, n ≤ ts.length ∧ m ≤ n ∧ at' = .int .i64 m ∧ i = .int .i64 n ∧ Hid (m = mcnt ts L n) ∧ Hid (wr = v5.drewN q)) (fun _ i _ => ts.length - (intOf i).toNat)
  case atStart => exact ⟨0, 0, 0, Nat.zero_le _, Nat.le_refl _, rfl, rfl, rfl, rfl⟩
  case round =>
    clear c0 c1
    obtain ⟨n, m, q, hn, hmn, rfl, rfl, HM, HW⟩ := hrel
    have hrT6 : Rd wr T ts := by rw [HW.out]; exact hrT5
    have hrM6 : Rd wr M (marks ts) := by rw [HW.out]; exact hrM5
    have hrA6 : Rd wr A N := by rw [HW.out]; exact hrA5
    have hrB6 : Rd wr B L := by rw [HW.out]; exact hrB
    have c0 : wr.cell? ⟨gr, 0, none⟩ = some (.slice A (marks ts).length cA) := by rw [HW.out]; exact HC.out.1
    have c1 : wr.cell? ⟨gw, 0, none⟩ = some (.slice B ts.length cB) := by rw [HW.out]; exact HC.out.2
    by_cases hlt : n < ts.length
    · have hnL : n < L.length := by have := HBl.out; omega
      have hat := OrdTo.at HL.out hlt
      obtain ⟨p, hp⟩ : ∃ p : Nat, L.getD n 0 = p := ⟨(L.getD n 0).toNat, by omega⟩
      have hpl : p < ts.length := by omega
      have hLn : L[n] = (p : Int) := by rw [← hp]; simp [List.getD, hnL]
      obtain ⟨bB, oB, rfl, hbB, hcB⟩ := hrB6.at hnL
      have hcb := hcB n hnL
      rw [hp] at hcb
      have HMK := Hid.mk' (mark_tell (xs := ts) hpl)
      have HLN := Hid.mk' hLn
      clear hcB hp hat hLn hrB6
      by_cases hp0 : 0 < p
      · obtain ⟨p', hp'⟩ : ∃ p' : Nat, p = p' + 1 := ⟨p - 1, by omega⟩
        have hpp : p - 1 = p' := by omega
        have hwr : IntKind.i64.wrap ((p : Int) - 1) = (p' : Int) := by
          rw [show (p : Int) - 1 = (p' : Int) by omega]; exact i64_wrap_small (by omega) (by omega)
        rw [hpp] at HMK
        have hpl' : p' ≤ ts.length := by omega
        clear hp' hpp
        have HKL := Hid.mk' (fun W (h : Rd W T ts) => kless_any T cT ts p (p + 1) W h (by omega) (by omega) (by omega))
        have HKL2 := Hid.mk' (fun W (h : Rd W T ts) => kless_any T cT ts p p' W h (by omega) (by omega) hpl')
        cases hu : lt (ts.drop p) (ts.drop (p + 1)) with
        | false =>
          rw [hu] at HMK
          rw [Hid, hu] at HKL
          have HNM : Hid (isMark ts L[n].toNat = false) := by rw [Hid, HLN.out, Int.toNat_natCast, HMK.out]; simp
          clear hu HMK
          generalize lt (ts.drop p) (ts.drop p') = d at HKL2
          go_wp2_with fail
          refine (HKL _ hrT6).mono ?_
          rintro e u1 ⟨rfl, k1, hu1⟩
          have hrT7 : Rd u1 T ts := by rw [hu1]; exact hrT6
          have HU1 : Hid (u1 = v5.drewN (q + k1)) := by rw [Hid, hu1, HW.out, World.drewN_drewN]
          clear hu1
          go_wp2_with fail
          refine (HKL2.out _ hrT7).mono ?_
          rintro e u2 ⟨rfl, k2, hu2⟩
          have HU2 : Hid (u2 = v5.drewN (q + k1 + k2)) := by rw [Hid, hu2, HU1.out, World.drewN_drewN]
          clear hu2 HU1
          have HS := Hid.mk' (mcnt_no (xs := ts) hnL HNM.out)
          go_wp2
          go_roundw
          case rel => exact ⟨n + 1, m, _, by omega, by omega, rfl, by go_num, by rw [Hid, HS.out]; exact HM.out, HU2⟩
          case measure => simp [intOf]; omega
        | true =>
          rw [hu] at HMK
          rw [Hid, hu] at HKL
          have hp1 : p + 1 < ts.length := by
            rcases Nat.lt_or_ge (p + 1) ts.length with h | h
            · exact h
            · rw [List.drop_eq_nil_of_le h, lt_to_nil] at hu; cases hu
          clear hu
          cases hd : lt (ts.drop p) (ts.drop p') with
          | false =>
            rw [hd] at HMK
            rw [Hid, hd] at HKL2
            have HNM : Hid (isMark ts L[n].toNat = false) := by rw [Hid, HLN.out, Int.toNat_natCast, HMK.out]; simp
            clear hd HMK
            go_wp2_with fail
            refine (HKL _ hrT6).mono ?_
            rintro e u1 ⟨rfl, k1, hu1⟩
            have hrT7 : Rd u1 T ts := by rw [hu1]; exact hrT6
            have HU1 : Hid (u1 = v5.drewN (q + k1)) := by rw [Hid, hu1, HW.out, World.drewN_drewN]
            clear hu1
            go_wp2_with fail
            refine (HKL2 _ hrT7).mono ?_
            rintro e u2 ⟨rfl, k2, hu2⟩
            have HU2 : Hid (u2 = v5.drewN (q + k1 + k2)) := by rw [Hid, hu2, HU1.out, World.drewN_drewN]
            clear hu2 HU1
            have HS := Hid.mk' (mcnt_no (xs := ts) hnL HNM.out)
            go_wp2
            go_roundw
            case rel => exact ⟨n + 1, m, _, by omega, by omega, rfl, by go_num, by rw [Hid, HS.out]; exact HM.out, HU2⟩
            case measure => simp [intOf]; omega
          | true =>
            rw [hd] at HMK
            rw [Hid, hd] at HKL2
            have hmk : isMark ts L[n].toNat = true := by rw [HLN.out, Int.toNat_natCast, HMK.out]; simp [hp0, hp1]
            obtain ⟨j, hj0, hj1, hj2, hj3⟩ := lifted_at HL.out HN.out hnL hmk
            rw [← HM.out] at hj0 hj1
            rw [HLN.out] at hj3
            have HS := Hid.mk' (mcnt_yes (xs := ts) hnL hmk)
            have hmA : m < N.length := by have := HAl.out; omega
            clear hd HMK hmk
            go_wp2_with fail
            refine (HKL _ hrT6).mono ?_
            rintro e u1 ⟨rfl, k1, hu1⟩
            have hrT7 : Rd u1 T ts := by rw [hu1]; exact hrT6
            have HU1 : Hid (u1 = v5.drewN (q + k1)) := by rw [Hid, hu1, HW.out, World.drewN_drewN]
            clear hu1
            go_wp2_with fail
            refine (HKL2 _ hrT7).mono ?_
            rintro e u2 ⟨rfl, k2, hu2⟩
            have HU2 : Hid (u2 = v5.drewN (q + k1 + k2)) := by rw [Hid, hu2, HU1.out, World.drewN_drewN]
            have hrM7 : Rd u2 M (marks ts) := by rw [HU2.out]; exact hrM5
            have hrA7 : Rd u2 A N := by rw [HU2.out]; exact hrA5
            have d0 : u2.cell? ⟨gr, 0, none⟩ = some (.slice A (marks ts).length cA) := by rw [HU2.out]; exact HC.out.1
            obtain ⟨bA, oA, rfl, hbA, hcA⟩ := hrA7.at hmA
            obtain ⟨bM, oM, rfl, hbM, hcM⟩ := hrM7.at hj2
            have e0 := hcA m hmA
            have e1 := hcM j hj2
            rw [hj1] at e0
            rw [hj3] at e1
            clear hu2 HU1 c0 c1 hcb hcA hcM hj1 hj3 hrM6 hrA6 hrM7 hrA7 hrT6 hrT7
            have hd1 : decide ((p : Int) + 1 < (ts.length : Int)) = true := decide_eq_true (by omega)
            go_wp2
            go_roundw
            case rel => exact ⟨n + 1, m + 1, _, by omega, by omega, by go_num, by go_num, by rw [Hid, HS.out, ← HM.out], HU2⟩
            case measure => simp [intOf]; omega
      · have HNM : Hid (isMark ts L[n].toNat = false) := by rw [Hid, HLN.out, Int.toNat_natCast, HMK.out]; simp [hp0]
        obtain rfl : p = 0 := by omega
        clear HMK
        have HS := Hid.mk' (mcnt_no (xs := ts) hnL HNM.out)
        go_wp2
        go_roundw
        case rel => exact ⟨n + 1, m, _, by omega, by omega, rfl, by go_num, by rw [Hid, HS.out]; exact HM.out, HW⟩
        case measure => simp [intOf]; omega
    · have HE := Hid.mk' (mcnt_all HL.out HN.out (n := n) (by have := HBl.out; omega))
      have hme : ((m : Int) == ((marks ts).length : Int)) = true := by rw [beq_iff_eq, HM.out, HE.out]
      go_wp2
      go_ret
      exact ⟨rfl, by rw [HW.out]; exact below_drewN HB5.out q⟩


set_option maxRecDepth 100000 in
theorem lifted (os : Os) (started : os.Started) (H : Type) (enc : TypeId × Value → H) :
    ReturnsInHanded {} Try.checked os 7 .any (Rows.liftedSpec.pre6 enc Try.prog Try.f7 Rows.liftedRow.domain false) (Rows.liftedSpec.post enc Try.prog Try.f7 false true false false) := by
  refine returnsInHanded_of_change (C := Try.checked) own started (by kernel_rfl) Try.func7
    (ChangeSpec.witness6 (enc := enc) (C := Try.checked) false ⟨#[], #[.slice none 0 0, .int .i64 0], []⟩ 8 (by kernel_rfl) (by kernel_rfl) (by kernel_rfl) (by kernel_rfl)) ?_
  intro W base args ds gs before hval0 hW hcnd _
  have hval : ∀ (j : Nat) t v, Try.f7.params[j]? = some t → args[j]? = some v → Value.okWide Try.prog W .any base t v := hval0
  have hW' := hW
  obtain ⟨p, q, hA0, hV, rfl, hfz, hnd⟩ := hW
  have hA : DataW.TrodAll enc Try.prog W 0 (fun _ => true) true Try.f7.params.toList args.toList ds p := hA0
  rw [Try.params7] at hA hval
  obtain ⟨v0, vs0, d0, ds0, p0, q0, hargs, rfl, rfl, h0, r0⟩ := trodAll_cons hA
  obtain ⟨v1, vs1, d1, ds1, p1, q1, rfl, rfl, rfl, h1, r1⟩ := trodAll_cons r0
  obtain ⟨rfl, rfl, rfl⟩ := trodAll_nil r1
  obtain rfl : args = #[v0, v1] := by cases args; simp_all
  obtain ⟨rfl, rfl⟩ := trodVars_none hV
  obtain ⟨a0, len0, cap0, rfl⟩ := okWide_slice Try.underlying22 (hval 0 22 v0 rfl rfl)
  have k0 := h0
  have lt0 : ∀ x ∈ p0, x.block < W.heap.size := by obtain ⟨m, hm⟩ := k0; exact DataW.trod_lt m _ _ _ hm
  obtain ⟨z0, w0⟩ : ∃ zs, IsRow .i64 W a0 len0 cap0 zs := by
    obtain ⟨fuel, hf⟩ := h0
    rcases open_ints Try.underlying22 Try.underlying3 (by kernel_rfl) hf with ⟨hcs, _⟩ | ⟨x, l, c, zs, hcs, _, hl, hm, hz, _, hcell, hwz⟩
    · simp [Value.cells] at hcs
      obtain ⟨rfl, rfl, rfl⟩ := hcs
      exact ⟨[], .inl ⟨rfl, rfl, rfl, rfl⟩⟩
    · simp [Value.cells] at hcs
      obtain ⟨rfl, rfl, rfl⟩ := hcs
      exact ⟨zs, .inr ⟨_, rfl, hl, hm, by simpa using hz, hcell, hwz⟩⟩
  obtain ⟨a1, rfl, rfl, rfl, w1⟩ := open_int Try.underlying3 (hval 1 3 v1 rfl rfl) h1
  clear hA0 hval0
  refine (walk a0 len0 cap0 z0 a1 W w0 w1).mono fun e W' ⟨he, bel⟩ => ?_
  subst he
  exact ⟨_, rfl, _, _, _, [], _, [], hW', trodAll_mk1 (shut_bool Try.underlying4 _), (trodAll_cons_mk (Below.trod laidOut (by kernel_rfl) (of_decide_eq_true (by kernel_rfl)) k0 bel lt0) (trodAll_cons_mk (shut_int Try.underlying3 w1) trodAll_mk0)), rfl, bel.frame _, fun h => by cases h⟩

theorem over : Rows.liftedRow.holds Try.pinned (OpenSpec.ofChange Rows.liftedSpec) :=
  OpenClaim.holds_of_wide 7 Try.f7 rfl rfl rfl rfl rfl rfl rfl ⟨rfl, rfl, rfl, rfl, rfl⟩ rfl rfl rfl rfl rfl (by kernel_rfl) Try.func7 (by kernel_rfl)
    (of_decide_eq_true (by kernel_rfl)) (by unfold Func.isWrapper; first | (rw [if_pos (by decide +kernel)]; kernel_rfl) | (rw [if_neg (by decide +kernel)]; exact ⟨rfl, rfl⟩))
    (fun os started H enc _ => lifted os started H enc)


theorem proved : Rows.LiftedSaid := over
end Go.Proofs.Ytdhehffdddbmbab.lifted

namespace Go.Proofs.Ytdhehffdddbmbab
theorem lifted_holds : Rows.LiftedSaid := lifted.proved
#print axioms lifted_holds
end Go.Proofs.Ytdhehffdddbmbab
