import Derived.Test.YtdhehffdddbmbaaLaw
import Derived.Test.YtdhehffdddbmbaaRanks
import Derived.Test.YtdhehffdddbmbaaRows
import Derived.WalkKit
import Derived.ProofKit
import Derived.OpenShut
import Derived.ShutString
import Derived.ChangeOld
import Derived.Below
namespace Go.Proofs.Ytdhehffdddbmbaa.ranked
open Go.ChangeShapes Go.WideShapes Go.ChangeAt Go.RowKit
open Go.Proofs.Ytdhehffdddbmbaa
open Go.ChangeMaps (open_string shut_string)
set_option linter.unusedVariables false

theorem own : ownKnob Try.prog.godebug = none := by kernel_rfl
theorem laidOut : laidOutB Try.prog = true := by kernel_rfl


def IsRow (k : IntKind) (w : World) (a : Option Addr) (len cap : Nat) (zs : List Int) : Prop :=
  (a = none ∧ len = 0 ∧ cap = 0 ∧ zs = []) ∨
  ∃ x, a = some x ∧ len ≤ cap ∧ cap ≤ maxLen ∧ zs.length = cap ∧ (∀ i, i < zs.length → w.cell? (x.add i) = some (.int k (zs.getD i 0))) ∧ ∀ n ∈ zs, (Lit.int k n).wf = true


set_option maxHeartbeats 8000000 in
set_option maxRecDepth 100000 in
theorem walk (a0 : Option Addr) (len0 cap0 : Nat) (z0 : List Int) (a1 : Int) (a2 : Int) (w : World) (w0 : IsRow .i64 w a0 len0 cap0 z0) (w1 : (Lit.int .i64 a1).wf = true) (w2 : (Lit.int .i64 a2).wf = true) :
    Calls Try.prog 7 #[.slice a0 len0 cap0, .int .i64 a1, .int .i64 a2] w fun e w' => e = .returned (.bool true) ∧ Below w.heap.size w w' := by
  obtain ⟨xs, rfl, hr, hl, -⟩ := rd_of_row w0
  have hcap : xs.length ≤ cap0 := row_cap w0
  unfold maxLen at hl
  by_cases hbig : 1073741824 < xs.length
  · go_enter Try.func7, Try.ntmps7
    go_wp2
    go_ret
    exact ⟨rfl, Below.refl _ _⟩
  · have hml : xs.length ≤ maxLen := by unfold maxLen; omega
    by_cases hs : scanE xs a1 = 0
    · have HE := Hid.mk' hs
      clear hs
      by_cases hh : a2 < 0
      · go_enter Try.func7, Try.ntmps7
        go_wp2_with fail
        refine (lent_any a0 cap0 xs _ hr (by omega)).mono ?_
        rintro e v1 ⟨rfl, ho, hb, hsz⟩
        have hro : Rd v1 (some ⟨w.heap.size, 0, none⟩) xs := by simpa using ho.rd.take xs.length
        go_wp2_with fail
        refine (ranksOpt_any _ _ xs a1 a2 _ hro hml HE.out hh).mono ?_
        rintro e v2 ⟨rfl, hb2⟩
        have ho2 : Own v2 w.heap.size (xs ++ [77, 77]) := ho.below hb2 hsz
        have hb02 : Below w.heap.size w v2 := hb.trans (hb2.mono hb.size)
        have hr2 := hr.below hb02
        clear hro ho hb2
        go_wp2_with fail
        refine (refScan_any _ _ xs a1 _ hr2 hml).mono ?_
        rintro e v3 ⟨rfl, rfl⟩
        rw [HE.out]
        go_wp2_with fail
        refine (whole_any _ _ _ xs _ ho2 hr2 (by omega)).mono ?_
        rintro e v4 ⟨rfl, q4, rfl⟩
        have hnil := eql_nil none 0 0
        go_wp2
        go_ret
        exact ⟨rfl, below_drewN hb02 q4⟩
      · obtain ⟨h, rfl⟩ : ∃ h : Nat, a2 = h := ⟨a2.toNat, by omega⟩
        have HRL := Hid.mk' (ranks_length xs h)
        go_enter Try.func7, Try.ntmps7
        go_wp2_with fail
        refine (lent_any a0 cap0 xs _ hr (by omega)).mono ?_
        rintro e v1 ⟨rfl, ho, hb, hsz⟩
        have hro : Rd v1 (some ⟨w.heap.size, 0, none⟩) xs := by simpa using ho.rd.take xs.length
        go_wp2_with fail
        refine (ranksOk_any _ _ xs a1 h _ hro (by omega) HE.out).mono ?_
        rintro e v2 ⟨r, rfl, hown, hb2⟩
        have ho2 : Own v2 w.heap.size (xs ++ [77, 77]) := ho.below hb2 hsz
        have hb02 : Below w.heap.size w v2 := hb.trans (hb2.mono hb.size)
        have hr2 := hr.below hb02
        obtain ⟨A, cR, rfl, hrR, -, -, -⟩ := owns_slice hown
        have hfr := FreeV.of_owns hown
        have HOB := Hid.mk' (owns_block hown)
        have hs2 := hb2.size
        have HB12 := Hid.mk' hb2
        clear hro ho hown hb2
        go_wp2_with fail
        refine (refScan_any _ _ xs a1 _ hr2 hml).mono ?_
        rintro e v3 ⟨rfl, rfl⟩
        rw [HE.out]
        go_wp2_with fail
        refine (whole_any _ _ _ xs _ ho2 hr2 (by omega)).mono ?_
        rintro e v4 ⟨rfl, q4, hv4⟩
        have ho4 : Own v4 w.heap.size (xs ++ [77, 77]) := by rw [hv4]; exact ho2
        have hrR4 : Rd v4 A (ranks xs h) := by rw [hv4]; exact hrR
        have hfr4 : FreeV v4 (.slice A xs.length cR) := by rw [hv4]; exact hfr
        have hb04 : Below w.heap.size w v4 := by rw [hv4]; exact below_drewN hb02 q4
        have hs4 : v1.heap.size ≤ v4.heap.size := by rw [hv4]; exact hs2
        have hr4 := hr.below hb04
        clear hv4 ho2 hr2 hrR hfr hb02 hs2
        go_wp2_with fail
        refine (refRanks_any _ _ xs h _ hr4 (by omega) hcap).mono ?_
        rintro e v5 ⟨rfl, hwant, hb5⟩
        have ho5 := ho4.below hb5 ho4.lt
        have hrR5 := hrR4.below hb5
        have hfr5 := hfr4.below hb5
        have hb05 : Below w.heap.size w v5 := hb04.trans (hb5.mono hb04.size)
        have hs5 : v1.heap.size ≤ v5.heap.size := Nat.le_trans hs4 hb5.size
        clear ho4 hrR4 hfr4 hb04 hr4 hb5 hs4
        go_wp2_with fail
        refine (same_eq _ _ _ _ _ _ (ranks xs h) _ hrR5 hwant.rd (by rw [HRL.out]; exact hml) HRL.out HRL.out).mono ?_
        rintro e v6 ⟨rfl, q6, hv6⟩
        have ho6 : Own v6 w.heap.size (xs ++ [77, 77]) := by rw [hv6]; exact ho5
        have hfr6 : FreeV v6 (.slice A xs.length cR) := by rw [hv6]; exact hfr5
        have hb06 : Below w.heap.size w v6 := by rw [hv6]; exact below_drewN hb05 q6
        have hs6 : v1.heap.size ≤ v6.heap.size := by rw [hv6]; exact hs5
        clear hv6 ho5 hrR5 hfr5 hb05 hwant hs5
        go_wp2_with fail
        refine (mine_any v1.heap.size _ _ _ hs6 hfr6 (.inl rfl) HOB.out (fun k hk => by simp [Value.ownBlock] at hk) (by cases A <;> simp [Value.ownBlock])).mono ?_
        rintro e v7 ⟨rfl, hb7, -⟩
        have ho7 : Own v7 w.heap.size (xs ++ [77, 77]) := ho6.below hb7 hsz
        have hb07 : Below w.heap.size w v7 := hb06.trans (hb7.mono hb.size)
        have hr7 := hr.below hb07
        clear ho6 hb06 hb7 hfr6
        go_wp2_with fail
        refine (whole_any _ _ _ xs _ ho7 hr7 (by omega)).mono ?_
        rintro e v8 ⟨rfl, q8, rfl⟩
        go_wp2
        go_ret
        exact ⟨rfl, below_drewN hb07 q8⟩
    · have HE := Hid.mk' hs
      have hbs : (scanE xs a1 != 0) = true := by simpa using hs
      have hbs' : (scanE xs a1 == 0) = false := by simpa using hs
      clear hs
      go_enter Try.func7, Try.ntmps7
      go_wp2_with fail
      refine (lent_any a0 cap0 xs _ hr (by omega)).mono ?_
      rintro e v1 ⟨rfl, ho, hb, hsz⟩
      have hro : Rd v1 (some ⟨w.heap.size, 0, none⟩) xs := by simpa using ho.rd.take xs.length
      go_wp2_with fail
      refine (ranksErr_any _ _ xs a1 a2 _ hro hml HE.out).mono ?_
      rintro e v2 ⟨rfl, hb2⟩
      have ho2 : Own v2 w.heap.size (xs ++ [77, 77]) := ho.below hb2 hsz
      have hb02 : Below w.heap.size w v2 := hb.trans (hb2.mono hb.size)
      have hr2 := hr.below hb02
      clear hro ho hb2
      go_wp2_with fail
      refine (refScan_any _ _ xs a1 _ hr2 hml).mono ?_
      rintro e v3 ⟨rfl, rfl⟩
      go_wp2_with fail
      refine (whole_any _ _ _ xs _ ho2 hr2 (by omega)).mono ?_
      rintro e v4 ⟨rfl, q4, rfl⟩
      have hnil := eql_nil none 0 0
      go_wp2
      go_ret
      exact ⟨rfl, below_drewN hb02 q4⟩


set_option maxRecDepth 100000 in
theorem lifted (os : Os) (started : os.Started) (H : Type) (enc : TypeId × Value → H) :
    ReturnsInHanded {} Try.checked os 7 .any (Rows.rankedSpec.pre6 enc Try.prog Try.f7 Rows.rankedRow.domain false) (Rows.rankedSpec.post enc Try.prog Try.f7 false true false false) := by
  refine returnsInHanded_of_change (C := Try.checked) own started (by kernel_rfl) Try.func7
    (ChangeSpec.witness6 (enc := enc) (C := Try.checked) false ⟨#[], #[.slice none 0 0, .int .i64 0, .int .i64 0], []⟩ 8 (by kernel_rfl) (by kernel_rfl) (by kernel_rfl) (by kernel_rfl)) ?_
  intro W base args ds gs before hval0 hW hcnd _
  have hval : ∀ (j : Nat) t v, Try.f7.params[j]? = some t → args[j]? = some v → Value.okWide Try.prog W .any base t v := hval0
  have hW' := hW
  obtain ⟨p, q, hA0, hV, rfl, hfz, hnd⟩ := hW
  have hA : DataW.TrodAll enc Try.prog W 0 (fun _ => true) true Try.f7.params.toList args.toList ds p := hA0
  rw [Try.params7] at hA hval
  obtain ⟨v0, vs0, d0, ds0, p0, q0, hargs, rfl, rfl, h0, r0⟩ := trodAll_cons hA
  obtain ⟨v1, vs1, d1, ds1, p1, q1, rfl, rfl, rfl, h1, r1⟩ := trodAll_cons r0
  obtain ⟨v2, vs2, d2, ds2, p2, q2, rfl, rfl, rfl, h2, r2⟩ := trodAll_cons r1
  obtain ⟨rfl, rfl, rfl⟩ := trodAll_nil r2
  obtain rfl : args = #[v0, v1, v2] := by cases args; simp_all
  obtain ⟨rfl, rfl⟩ := trodVars_none hV
  obtain ⟨a0, len0, cap0, rfl⟩ := okWide_slice Try.underlying22 (hval 0 22 v0 rfl rfl)
  have k0 := h0
  have lt0 : ∀ x ∈ p0, x.block < W.heap.size := by obtain ⟨m, hm⟩ := k0; exact DataW.trod_lt m _ _ _ hm
  obtain ⟨z0, w0⟩ : ∃ zs, IsRow .i64 W a0 len0 cap0 zs := by
    obtain ⟨fuel, hf⟩ := h0
    rcases open_ints Try.underlying22 Try.underlying3 (by kernel_rfl) hf with ⟨hcs, _⟩ | ⟨x, l, c, zs, hcs, _, hl, hm, hz, _, hcell, hwz⟩
    · simp [Value.cells] at hcs
      obtain ⟨rfl, rfl, rfl⟩ := hcs
      exact ⟨[], .inl ⟨rfl, rfl, rfl, rfl⟩⟩
    · simp [Value.cells] at hcs
      obtain ⟨rfl, rfl, rfl⟩ := hcs
      exact ⟨zs, .inr ⟨_, rfl, hl, hm, by simpa using hz, hcell, hwz⟩⟩
  obtain ⟨a1, rfl, rfl, rfl, w1⟩ := open_int Try.underlying3 (hval 1 3 v1 rfl rfl) h1
  obtain ⟨a2, rfl, rfl, rfl, w2⟩ := open_int Try.underlying3 (hval 2 3 v2 rfl rfl) h2
  clear hA0 hval0
  refine (walk a0 len0 cap0 z0 a1 a2 W w0 w1 w2).mono fun e W' ⟨he, bel⟩ => ?_
  subst he
  exact ⟨_, rfl, _, _, _, [], _, [], hW', trodAll_mk1 (shut_bool Try.underlying4 _), (trodAll_cons_mk (Below.trod laidOut (by kernel_rfl) (of_decide_eq_true (by kernel_rfl)) k0 bel lt0) (trodAll_cons_mk (shut_int Try.underlying3 w1) (trodAll_cons_mk (shut_int Try.underlying3 w2) trodAll_mk0))), rfl, bel.frame _, fun h => by cases h⟩

theorem over : Rows.rankedRow.holds Try.pinned (OpenSpec.ofChange Rows.rankedSpec) :=
  OpenClaim.holds_of_wide 7 Try.f7 rfl rfl rfl rfl rfl rfl rfl ⟨rfl, rfl, rfl, rfl, rfl⟩ rfl rfl rfl rfl rfl (by kernel_rfl) Try.func7 (by kernel_rfl)
    (of_decide_eq_true (by kernel_rfl)) (by unfold Func.isWrapper; first | (rw [if_pos (by decide +kernel)]; kernel_rfl) | (rw [if_neg (by decide +kernel)]; exact ⟨rfl, rfl⟩))
    (fun os started H enc _ => lifted os started H enc)


theorem proved : Rows.RankedSaid := over
end Go.Proofs.Ytdhehffdddbmbaa.ranked

namespace Go.Proofs.Ytdhehffdddbmbaa
theorem ranked_holds : Rows.RankedSaid := ranked.proved
#print axioms ranked_holds
end Go.Proofs.Ytdhehffdddbmbaa
