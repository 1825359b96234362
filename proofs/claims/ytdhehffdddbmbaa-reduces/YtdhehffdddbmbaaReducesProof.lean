import Derived.Test.YtdhehffdddbmbaaLaw
import Derived.Test.YtdhehffdddbmbaaLawKeep
import Derived.Test.YtdhehffdddbmbaaRest
import Derived.Test.YtdhehffdddbmbaaRows
import Derived.WalkKit
import Derived.ProofKit
import Derived.OpenShut
import Derived.ShutString
import Derived.ChangeOld
import Derived.Below
namespace Go.Proofs.Ytdhehffdddbmbaa.reduces
open Go.ChangeShapes Go.WideShapes Go.ChangeAt Go.RowKit
open Go.Proofs.Ytdhehffdddbmbaa
open Go.ChangeMaps (open_string shut_string)
set_option linter.unusedVariables false

theorem own : ownKnob Try.prog.godebug = none := by kernel_rfl
theorem laidOut : laidOutB Try.prog = true := by kernel_rfl


def IsRow (k : IntKind) (w : World) (a : Option Addr) (len cap : Nat) (zs : List Int) : Prop :=
  (a = none ∧ len = 0 ∧ cap = 0 ∧ zs = []) ∨
  ∃ x, a = some x ∧ len ≤ cap ∧ cap ≤ maxLen ∧ zs.length = cap ∧ (∀ i, i < zs.length → w.cell? (x.add i) = some (.int k (zs.getD i 0))) ∧ ∀ n ∈ zs, (Lit.int k n).wf = true


set_option maxHeartbeats 8000000 in
set_option maxRecDepth 100000 in
theorem walk (a0 : Option Addr) (len0 cap0 : Nat) (z0 : List Int) (a1 : Int) (w : World) (w0 : IsRow .i64 w a0 len0 cap0 z0) (w1 : (Lit.int .i64 a1).wf = true) :
    Calls Try.prog 11 #[.slice a0 len0 cap0, .int .i64 a1] w fun e w' => e = .returned (.bool true) ∧ Below w.heap.size w w' := by
  obtain ⟨xs, rfl, hr, hl, -⟩ := rd_of_row w0
  have hcap : xs.length ≤ cap0 := row_cap w0
  have hcap' : cap0 ≤ 9223372036854775807 := row_max w0
  unfold maxLen at hl
  by_cases hbig : 1073741824 < xs.length
  · go_enter Try.func11, Try.ntmps11
    go_wp2
    go_ret
    exact ⟨rfl, Below.refl _ _⟩
  · have hml : xs.length ≤ maxLen := by unfold maxLen; omega
    by_cases hs : scanE xs a1 = 0
    · have HE := Hid.mk' hs
      have h96 := (scan_zero hs).1
      have hmk := marks_length_le xs
      have HNL := Hid.mk' (names_length xs)
      clear hs
      go_enter Try.func11, Try.ntmps11
      go_wp2_with fail
      refine (lent_any a0 cap0 xs _ hr (by omega)).mono ?_
      rintro e v1 ⟨rfl, ho, hb, hsz⟩
      have hro : Rd v1 (some ⟨w.heap.size, 0, none⟩) xs := by simpa using ho.rd.take xs.length
      go_wp2_with fail
      refine (reduceOk_any _ _ xs a1 _ hro (by omega) (by omega) HE.out).mono ?_
      rintro e v2 ⟨r, r', rfl, hown, hown', hap, hb2⟩
      obtain ⟨A, cR, rfl, hrR, hRl, -, -⟩ := owns_slice hown
      obtain ⟨S, cS, rfl, hrS, hSl, -, -⟩ := owns_slice hown'
      have HOB := Hid.mk' (owns_block hown)
      have HOB' := Hid.mk' (owns_block hown')
      have HAp := Hid.mk' hap
      have K : K2 w v2 v1.heap.size A S (marks xs).length (names xs).length cR cS xs (marks xs) (names xs) := ⟨ho.below hb2 hsz, hrR, hrS, FreeV.of_owns hown, FreeV.of_owns hown', hb.trans (hb2.mono hb.size), hb2.size⟩
      have hr2 := hr.below K.below
      clear hro ho hown hown' hap hb2 hrR hRl hrS hSl
      go_wp2_with fail
      refine (refScan_any _ _ xs a1 _ hr2 hml).mono ?_
      rintro e v3 ⟨rfl, rfl⟩
      rw [HE.out]
      go_wp2_with fail
      refine (whole_any _ _ _ xs _ K.lent hr2 (by omega)).mono ?_
      rintro e v4 ⟨rfl, q4, hv4⟩
      replace K := K.of hv4
      clear hv4 hr2
      have hr4 := hr.below K.below
      go_wp2_with fail
      refine (refMarks_any _ _ xs _ hr4 (by omega) hcap hcap').mono ?_
      rintro e v5 ⟨r5, rfl, hown5, hb5⟩
      obtain ⟨O, cO, rfl, hrO, hOl, -, -⟩ := owns_slice hown5
      replace K := K.next hb5
      clear hr4 hown5 hb5 hOl
      have hr5 := hr.below K.below
      go_wp2_with fail
      refine (refNames_any _ _ xs _ hr5 (by omega) hcap hcap').mono ?_
      rintro e v6 ⟨g6, hg6, rfl, hown6, hb6⟩
      have hrN := hown6.rd
      have hrO6 := hrO.below hb6
      replace K := K.next hb6
      clear hr5 hown6 hb6 hrO
      go_wp2_with fail
      refine (same_eq _ _ _ _ _ _ (marks xs) _ K.rd hrO6 (by unfold maxLen; omega) rfl rfl).mono ?_
      rintro e v7 ⟨rfl, q7, hv7⟩
      replace K := K.of hv7
      have hrN7 : Rd v7 (some ⟨g6, 0, none⟩) (names xs) := by rw [hv7]; exact hrN
      clear hv7 hrO6 hrN
      go_wp2_with fail
      refine (same_eq _ _ _ _ _ _ (names xs) _ K.rd' hrN7 (by rw [HNL.out]; unfold maxLen; omega) rfl rfl).mono ?_
      rintro e v8 ⟨rfl, q8, hv8⟩
      replace K := K.of hv8
      clear hv8 hrN7
      go_wp2_with fail
      refine (mine_any v1.heap.size _ _ _ K.size K.free K.free' HOB.out HOB'.out HAp.out).mono ?_
      rintro e v9 ⟨rfl, hb9, -⟩
      have ho9 : Own v9 w.heap.size (xs ++ [77, 77]) := K.lent.below hb9 hsz
      have hb09 : Below w.heap.size w v9 := K.below.trans (hb9.mono hb.size)
      have hr9 := hr.below hb09
      clear K hb9
      go_wp2_with fail
      refine (whole_any _ _ _ xs _ ho9 hr9 (by omega)).mono ?_
      rintro e v10 ⟨rfl, q10, rfl⟩
      go_wp2
      go_ret
      exact ⟨rfl, below_drewN hb09 q10⟩
    · have HE := Hid.mk' hs
      have hbs : (scanE xs a1 != 0) = true := by simpa using hs
      clear hs
      go_enter Try.func11, Try.ntmps11
      go_wp2_with fail
      refine (lent_any a0 cap0 xs _ hr (by omega)).mono ?_
      rintro e v1 ⟨rfl, ho, hb, hsz⟩
      have hro : Rd v1 (some ⟨w.heap.size, 0, none⟩) xs := by simpa using ho.rd.take xs.length
      go_wp2_with fail
      refine (reduceErr_any _ _ xs a1 _ hro hml HE.out).mono ?_
      rintro e v2 ⟨rfl, hb2⟩
      have ho2 : Own v2 w.heap.size (xs ++ [77, 77]) := ho.below hb2 hsz
      have hb02 : Below w.heap.size w v2 := hb.trans (hb2.mono hb.size)
      have hr2 := hr.below hb02
      clear hro ho hb2
      go_wp2_with fail
      refine (refScan_any _ _ xs a1 _ hr2 hml).mono ?_
      rintro e v3 ⟨rfl, rfl⟩
      go_wp2_with fail
      refine (whole_any _ _ _ xs _ ho2 hr2 (by omega)).mono ?_
      rintro e v4 ⟨rfl, q4, rfl⟩
      have hnil := eql_nil none 0 0
      go_wp2
      go_ret
      exact ⟨rfl, below_drewN hb02 q4⟩


set_option maxRecDepth 100000 in
theorem lifted (os : Os) (started : os.Started) (H : Type) (enc : TypeId × Value → H) :
    ReturnsInHanded {} Try.checked os 11 .any (Rows.reducesSpec.pre6 enc Try.prog Try.f11 Rows.reducesRow.domain false) (Rows.reducesSpec.post enc Try.prog Try.f11 false true false false) := by
  refine returnsInHanded_of_change (C := Try.checked) own started (by kernel_rfl) Try.func11
    (ChangeSpec.witness6 (enc := enc) (C := Try.checked) false ⟨#[], #[.slice none 0 0, .int .i64 0], []⟩ 8 (by kernel_rfl) (by kernel_rfl) (by kernel_rfl) (by kernel_rfl)) ?_
  intro W base args ds gs before hval0 hW hcnd _
  have hval : ∀ (j : Nat) t v, Try.f11.params[j]? = some t → args[j]? = some v → Value.okWide Try.prog W .any base t v := hval0
  have hW' := hW
  obtain ⟨p, q, hA0, hV, rfl, hfz, hnd⟩ := hW
  have hA : DataW.TrodAll enc Try.prog W 0 (fun _ => true) true Try.f11.params.toList args.toList ds p := hA0
  rw [Try.params11] at hA hval
  obtain ⟨v0, vs0, d0, ds0, p0, q0, hargs, rfl, rfl, h0, r0⟩ := trodAll_cons hA
  obtain ⟨v1, vs1, d1, ds1, p1, q1, rfl, rfl, rfl, h1, r1⟩ := trodAll_cons r0
  obtain ⟨rfl, rfl, rfl⟩ := trodAll_nil r1
  obtain rfl : args = #[v0, v1] := by cases args; simp_all
  obtain ⟨rfl, rfl⟩ := trodVars_none hV
  obtain ⟨a0, len0, cap0, rfl⟩ := okWide_slice Try.underlying22 (hval 0 22 v0 rfl rfl)
  have k0 := h0
  have lt0 : ∀ x ∈ p0, x.block < W.heap.size := by obtain ⟨m, hm⟩ := k0; exact DataW.trod_lt m _ _ _ hm
  obtain ⟨z0, w0⟩ : ∃ zs, IsRow .i64 W a0 len0 cap0 zs := by
    obtain ⟨fuel, hf⟩ := h0
    rcases open_ints Try.underlying22 Try.underlying3 (by kernel_rfl) hf with ⟨hcs, _⟩ | ⟨x, l, c, zs, hcs, _, hl, hm, hz, _, hcell, hwz⟩
    · simp [Value.cells] at hcs
      obtain ⟨rfl, rfl, rfl⟩ := hcs
      exact ⟨[], .inl ⟨rfl, rfl, rfl, rfl⟩⟩
    · simp [Value.cells] at hcs
      obtain ⟨rfl, rfl, rfl⟩ := hcs
      exact ⟨zs, .inr ⟨_, rfl, hl, hm, by simpa using hz, hcell, hwz⟩⟩
  obtain ⟨a1, rfl, rfl, rfl, w1⟩ := open_int Try.underlying3 (hval 1 3 v1 rfl rfl) h1
  clear hA0 hval0
  refine (walk a0 len0 cap0 z0 a1 W w0 w1).mono fun e W' ⟨he, bel⟩ => ?_
  subst he
  exact ⟨_, rfl, _, _, _, [], _, [], hW', trodAll_mk1 (shut_bool Try.underlying4 _), (trodAll_cons_mk (Below.trod laidOut (by kernel_rfl) (of_decide_eq_true (by kernel_rfl)) k0 bel lt0) (trodAll_cons_mk (shut_int Try.underlying3 w1) trodAll_mk0)), rfl, bel.frame _, fun h => by cases h⟩

theorem over : Rows.reducesRow.holds Try.pinned (OpenSpec.ofChange Rows.reducesSpec) :=
  OpenClaim.holds_of_wide 11 Try.f11 rfl rfl rfl rfl rfl rfl rfl ⟨rfl, rfl, rfl, rfl, rfl⟩ rfl rfl rfl rfl rfl (by kernel_rfl) Try.func11 (by kernel_rfl)
    (of_decide_eq_true (by kernel_rfl)) (by unfold Func.isWrapper; first | (rw [if_pos (by decide +kernel)]; kernel_rfl) | (rw [if_neg (by decide +kernel)]; exact ⟨rfl, rfl⟩))
    (fun os started H enc _ => lifted os started H enc)


theorem proved : Rows.ReducesSaid := over
end Go.Proofs.Ytdhehffdddbmbaa.reduces

namespace Go.Proofs.Ytdhehffdddbmbaa
theorem reduces_holds : Rows.ReducesSaid := reduces.proved
#print axioms reduces_holds
end Go.Proofs.Ytdhehffdddbmbaa
