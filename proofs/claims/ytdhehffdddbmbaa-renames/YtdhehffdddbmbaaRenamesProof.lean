import Derived.Test.YtdhehffdddbmbaaLaw
import Derived.Test.YtdhehffdddbmbaaRefDense
import Derived.Test.YtdhehffdddbmbaaRows
import Derived.WalkKit
import Derived.ProofKit
import Derived.OpenShut
import Derived.ShutString
import Derived.ChangeOld
import Derived.Below
namespace Go.Proofs.Ytdhehffdddbmbaa.renames
open Go.ChangeShapes Go.WideShapes Go.ChangeAt Go.RowKit
open Go.Proofs.Ytdhehffdddbmbaa
open Go.ChangeMaps (open_string shut_string)
set_option linter.unusedVariables false

theorem own : ownKnob Try.prog.godebug = none := by kernel_rfl
theorem laidOut : laidOutB Try.prog = true := by kernel_rfl


def IsRow (k : IntKind) (w : World) (a : Option Addr) (len cap : Nat) (zs : List Int) : Prop :=
  (a = none ∧ len = 0 ∧ cap = 0 ∧ zs = []) ∨
  ∃ x, a = some x ∧ len ≤ cap ∧ cap ≤ maxLen ∧ zs.length = cap ∧ (∀ i, i < zs.length → w.cell? (x.add i) = some (.int k (zs.getD i 0))) ∧ ∀ n ∈ zs, (Lit.int k n).wf = true


set_option maxHeartbeats 8000000 in
set_option maxRecDepth 100000 in
theorem walk (a0 : Option Addr) (len0 cap0 : Nat) (z0 : List Int) (a1 : Int) (w : World) (w0 : IsRow .i64 w a0 len0 cap0 z0) (w1 : (Lit.int .i64 a1).wf = true) :
    Calls Try.prog 4 #[.slice a0 len0 cap0, .int .i64 a1] w fun e w' => e = .returned (.bool true) ∧ Below w.heap.size w w' := by
  obtain ⟨xs, rfl, hr, hl, -⟩ := rd_of_row w0
  have hcap : xs.length ≤ cap0 := row_cap w0
  unfold maxLen at hl
  by_cases hbig : 1073741824 < xs.length
  · go_enter Try.func4, Try.ntmps4
    go_wp2
    go_ret
    exact ⟨rfl, Below.refl _ _⟩
  · have hml : xs.length ≤ maxLen := by unfold maxLen; omega
    by_cases hs : scanE xs a1 = 0
    · have HE := Hid.mk' hs
      have hk := kinds_le xs
      have hbl := buckets_length xs
      have hdl := dense_length xs
      have HBL := Hid.mk' hbl
      have HDL := Hid.mk' hdl
      clear hs hbl hdl
      go_enter Try.func4, Try.ntmps4
      go_wp2_with fail
      refine (lent_any a0 cap0 xs _ hr (by omega)).mono ?_
      rintro e w1 ⟨rfl, ho, hb, hsz⟩
      have hr1 := hr.below hb
      have hro : Rd w1 (some ⟨w.heap.size, 0, none⟩) xs := by simpa using ho.rd.take xs.length
      go_wp2_with fail
      refine (denseOk_any _ _ xs a1 _ hro HE.out).mono ?_
      rintro e w2 ⟨g, hg, rfl, hod, hb2⟩
      have hlt2 := hod.lt
      have hro2 := hro.below hb2
      go_wp2_with fail
      refine (bucketsOk_any _ _ xs a1 _ hro2 HE.out).mono ?_
      rintro e w3 ⟨g', hg', rfl, hob, hb3⟩
      have hod3 : Own w3 g (dense xs) := hod.below hb3 hlt2
      have hlt3 := hob.lt
      have ho3 : Own w3 w.heap.size (xs ++ [77, 77]) := (ho.below hb2 hsz).below hb3 (by have := hb2.size; omega)
      have hb13 : Below w1.heap.size w1 w3 := hb2.trans (hb3.mono hb2.size)
      have hr3 := hr1.below hb13
      clear hro hro2 hod hr1 hb2 hb3 ho
      go_wp2_with fail
      refine (whole_any _ _ _ xs _ ho3 hr3 (by omega)).mono ?_
      rintro e w4 ⟨rfl, q4, hw4⟩
      have hr4 : Rd w4 a0 xs := by rw [hw4]; exact hr3
      have ho4 : Own w4 w.heap.size (xs ++ [77, 77]) := by rw [hw4]; exact ho3
      have hob4 : Own w4 g' (buckets xs) := by rw [hw4]; exact hob
      have hod4 : Own w4 g (dense xs) := by rw [hw4]; exact hod3
      have hb14 : Below w1.heap.size w1 w4 := by rw [hw4]; exact below_drewN hb13 q4
      have hz4 : w3.heap.size ≤ w4.heap.size := by rw [hw4]; exact Nat.le_refl _
      clear hw4 ho3 hr3 hob hod3 hb13
      go_wp2_with fail
      refine (refScan_any _ _ xs a1 _ hr4 hml).mono ?_
      rintro e w5 ⟨rfl, rfl⟩
      rw [HE.out]
      go_wp2_with fail
      refine (refDense_any _ _ xs _ hr4 (by omega) hcap).mono ?_
      rintro e w6 ⟨rfl, hwant, hb6⟩
      have hr6 := hr4.below hb6
      have hlt6 := hwant.lt
      go_wp2_with fail
      refine (refBuckets_any _ _ xs _ hr6 (by omega) hcap).mono ?_
      rintro e w7 ⟨v, rfl, hall, hb7⟩
      have hw7 : Own w7 w5.heap.size (dense xs) := hwant.below hb7 hlt6
      have hb57 : Below w5.heap.size w5 w7 := hb6.trans (hb7.mono hb6.size)
      have hr7 := hr6.below hb7
      have hob7 : Own w7 g' (buckets xs) := hob4.below hb57 (by omega)
      have hod7 : Own w7 g (dense xs) := hod4.below hb57 (by omega)
      have ho7 : Own w7 w.heap.size (xs ++ [77, 77]) := ho4.below hb57 (by have := hb14.size; omega)
      have hb17 : Below w1.heap.size w1 w7 := hb14.trans (hb57.mono hb14.size)
      clear hr4 hr6 hob4 hod4 ho4 hwant hb6 hb7 hb57
      rcases hall.2 with ⟨_, h0⟩ | ⟨gv, cv, cur, rfl, _, _, hcv, hcm, _, _⟩
      · rw [HBL.out] at h0; omega
      · have hra := rd_of_owns hall
        clear hall
        go_wp2_with fail
        refine (same_eq _ _ _ _ _ _ (dense xs) _ hod7.rd hw7.rd (by rw [HDL.out]; exact hml) HDL.out HDL.out).mono ?_
        rintro e w8 ⟨rfl, q8, hw8⟩
        have hr8 : Rd w8 a0 xs := by rw [hw8]; exact hr7
        have ho8 : Own w8 w.heap.size (xs ++ [77, 77]) := by rw [hw8]; exact ho7
        have hob8 : Own w8 g' (buckets xs) := by rw [hw8]; exact hob7
        have hod8 : Own w8 g (dense xs) := by rw [hw8]; exact hod7
        have hra8 : Rd w8 (some ⟨gv, 0, none⟩) (buckets xs) := by rw [hw8]; exact hra
        have hb18 : Below w1.heap.size w1 w8 := by rw [hw8]; exact below_drewN hb17 q8
        clear hw8 hr7 ho7 hob7 hod7 hra hb17 hw7
        go_wp2_with fail
        refine (same_eq _ _ _ _ _ _ (buckets xs) _ hob8.rd hra8 (by rw [HBL.out]; unfold maxLen; omega) rfl rfl).mono ?_
        rintro e w9 ⟨rfl, q9, hw9⟩
        have hr9 : Rd w9 a0 xs := by rw [hw9]; exact hr8
        have ho9 : Own w9 w.heap.size (xs ++ [77, 77]) := by rw [hw9]; exact ho8
        have hob9 : Own w9 g' (buckets xs) := by rw [hw9]; exact hob8
        have hod9 : Own w9 g (dense xs) := by rw [hw9]; exact hod8
        have hb19 : Below w1.heap.size w1 w9 := by rw [hw9]; exact below_drewN hb18 q9
        clear hw9 hr8 ho8 hob8 hod8 hra8 hb18
        go_wp2_with fail
        refine (mine_own w1.heap.size g g' _ _ _ _ _ _ _ hg (by omega) hb19.size (by omega) hod9.v (by simp [HDL.out]) (by omega) hob9.v (by simp) (by rw [HBL.out]; omega)).mono ?_
        rintro e w10 ⟨rfl, hb10⟩
        have ho10 : Own w10 w.heap.size (xs ++ [77, 77]) := ho9.below hb10 hsz
        have hb110 : Below w.heap.size w w10 := hb.trans ((hb19.trans hb10).mono hb.size)
        have hr10 : Rd w10 a0 xs := hr.below hb110
        clear hr9 ho9 hob9 hod9 hb19 hb10
        go_wp2_with fail
        refine (whole_any _ _ _ xs _ ho10 hr10 (by omega)).mono ?_
        rintro e w11 ⟨rfl, q11, rfl⟩
        go_wp2
        go_ret
        exact ⟨rfl, below_drewN hb110 q11⟩
    · have HE := Hid.mk' hs
      have hbs : (scanE xs a1 != 0) = true := by simpa using hs
      clear hs
      go_enter Try.func4, Try.ntmps4
      go_wp2_with fail
      refine (lent_any a0 cap0 xs _ hr (by omega)).mono ?_
      rintro e w1 ⟨rfl, ho, hb, hsz⟩
      have hr1 := hr.below hb
      have hro : Rd w1 (some ⟨w.heap.size, 0, none⟩) xs := by simpa using ho.rd.take xs.length
      go_wp2_with fail
      refine (denseErr_any _ _ xs a1 _ hro hml HE.out).mono ?_
      rintro e w2 ⟨rfl, rfl⟩
      go_wp2_with fail
      refine (bucketsErr_any _ _ xs a1 _ hro hml HE.out).mono ?_
      rintro e w2 ⟨rfl, rfl⟩
      go_wp2_with fail
      refine (whole_any _ _ _ xs _ ho hr1 (by omega)).mono ?_
      rintro e w4 ⟨rfl, q4, hw4⟩
      have hr4 : Rd w4 a0 xs := by rw [hw4]; exact hr1
      have hb4 : Below w.heap.size w w4 := by rw [hw4]; exact below_drewN hb q4
      clear hw4
      go_wp2_with fail
      refine (refScan_any _ _ xs a1 _ hr4 hml).mono ?_
      rintro e w5 ⟨rfl, rfl⟩
      have hnil := eql_nil none 0 0
      go_wp2
      go_ret
      exact ⟨rfl, hb4⟩


set_option maxRecDepth 100000 in
theorem lifted (os : Os) (started : os.Started) (H : Type) (enc : TypeId × Value → H) :
    ReturnsInHanded {} Try.checked os 4 .any (Rows.renamesSpec.pre6 enc Try.prog Try.f4 Rows.renamesRow.domain false) (Rows.renamesSpec.post enc Try.prog Try.f4 false true false false) := by
  refine returnsInHanded_of_change (C := Try.checked) own started (by kernel_rfl) Try.func4
    (ChangeSpec.witness6 (enc := enc) (C := Try.checked) false ⟨#[], #[.slice none 0 0, .int .i64 0], []⟩ 8 (by kernel_rfl) (by kernel_rfl) (by kernel_rfl) (by kernel_rfl)) ?_
  intro W base args ds gs before hval0 hW hcnd _
  have hval : ∀ (j : Nat) t v, Try.f4.params[j]? = some t → args[j]? = some v → Value.okWide Try.prog W .any base t v := hval0
  have hW' := hW
  obtain ⟨p, q, hA0, hV, rfl, hfz, hnd⟩ := hW
  have hA : DataW.TrodAll enc Try.prog W 0 (fun _ => true) true Try.f4.params.toList args.toList ds p := hA0
  rw [Try.params4] at hA hval
  obtain ⟨v0, vs0, d0, ds0, p0, q0, hargs, rfl, rfl, h0, r0⟩ := trodAll_cons hA
  obtain ⟨v1, vs1, d1, ds1, p1, q1, rfl, rfl, rfl, h1, r1⟩ := trodAll_cons r0
  obtain ⟨rfl, rfl, rfl⟩ := trodAll_nil r1
  obtain rfl : args = #[v0, v1] := by cases args; simp_all
  obtain ⟨rfl, rfl⟩ := trodVars_none hV
  obtain ⟨a0, len0, cap0, rfl⟩ := okWide_slice Try.underlying22 (hval 0 22 v0 rfl rfl)
  have k0 := h0
  have lt0 : ∀ x ∈ p0, x.block < W.heap.size := by obtain ⟨m, hm⟩ := k0; exact DataW.trod_lt m _ _ _ hm
  obtain ⟨z0, w0⟩ : ∃ zs, IsRow .i64 W a0 len0 cap0 zs := by
    obtain ⟨fuel, hf⟩ := h0
    rcases open_ints Try.underlying22 Try.underlying3 (by kernel_rfl) hf with ⟨hcs, _⟩ | ⟨x, l, c, zs, hcs, _, hl, hm, hz, _, hcell, hwz⟩
    · simp [Value.cells] at hcs
      obtain ⟨rfl, rfl, rfl⟩ := hcs
      exact ⟨[], .inl ⟨rfl, rfl, rfl, rfl⟩⟩
    · simp [Value.cells] at hcs
      obtain ⟨rfl, rfl, rfl⟩ := hcs
      exact ⟨zs, .inr ⟨_, rfl, hl, hm, by simpa using hz, hcell, hwz⟩⟩
  obtain ⟨a1, rfl, rfl, rfl, w1⟩ := open_int Try.underlying3 (hval 1 3 v1 rfl rfl) h1
  clear hA0 hval0
  refine (walk a0 len0 cap0 z0 a1 W w0 w1).mono fun e W' ⟨he, bel⟩ => ?_
  subst he
  exact ⟨_, rfl, _, _, _, [], _, [], hW', trodAll_mk1 (shut_bool Try.underlying4 _), (trodAll_cons_mk (Below.trod laidOut (by kernel_rfl) (of_decide_eq_true (by kernel_rfl)) k0 bel lt0) (trodAll_cons_mk (shut_int Try.underlying3 w1) trodAll_mk0)), rfl, bel.frame _, fun h => by cases h⟩

theorem over : Rows.renamesRow.holds Try.pinned (OpenSpec.ofChange Rows.renamesSpec) :=
  OpenClaim.holds_of_wide 4 Try.f4 rfl rfl rfl rfl rfl rfl rfl ⟨rfl, rfl, rfl, rfl, rfl⟩ rfl rfl rfl rfl rfl (by kernel_rfl) Try.func4 (by kernel_rfl)
    (of_decide_eq_true (by kernel_rfl)) (by unfold Func.isWrapper; first | (rw [if_pos (by decide +kernel)]; kernel_rfl) | (rw [if_neg (by decide +kernel)]; exact ⟨rfl, rfl⟩))
    (fun os started H enc _ => lifted os started H enc)


theorem proved : Rows.RenamesSaid := over
end Go.Proofs.Ytdhehffdddbmbaa.renames

namespace Go.Proofs.Ytdhehffdddbmbaa
theorem renames_holds : Rows.RenamesSaid := renames.proved
#print axioms renames_holds
end Go.Proofs.Ytdhehffdddbmbaa
