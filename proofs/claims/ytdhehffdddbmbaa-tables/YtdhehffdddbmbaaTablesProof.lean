import Derived.Test.YtdhehffdddbmbaaLaw
import Derived.Test.YtdhehffdddbmbaaLawKeep
import Derived.Test.YtdhehffdddbmbaaRest
import Derived.Test.YtdhehffdddbmbaaRows
import Derived.WalkKit
import Derived.ProofKit
import Derived.OpenShut
import Derived.ShutString
import Derived.ChangeOld
import Derived.Below
namespace Go.Proofs.Ytdhehffdddbmbaa.tables
open Go.ChangeShapes Go.WideShapes Go.ChangeAt Go.RowKit
open Go.Proofs.Ytdhehffdddbmbaa
open Go.ChangeMaps (open_string shut_string)
set_option linter.unusedVariables false

theorem own : ownKnob Try.prog.godebug = none := by kernel_rfl
theorem laidOut : laidOutB Try.prog = true := by kernel_rfl


def IsRow (k : IntKind) (w : World) (a : Option Addr) (len cap : Nat) (zs : List Int) : Prop :=
  (a = none ∧ len = 0 ∧ cap = 0 ∧ zs = []) ∨
  ∃ x, a = some x ∧ len ≤ cap ∧ cap ≤ maxLen ∧ zs.length = cap ∧ (∀ i, i < zs.length → w.cell? (x.add i) = some (.int k (zs.getD i 0))) ∧ ∀ n ∈ zs, (Lit.int k n).wf = true


set_option maxHeartbeats 8000000 in
set_option maxRecDepth 100000 in
theorem walk (a0 : Option Addr) (len0 cap0 : Nat) (z0 : List Int) (a1 : Option Addr) (len1 cap1 : Nat) (z1 : List Int) (a2 : Option Addr) (len2 cap2 : Nat) (z2 : List Int) (w : World) (w0 : IsRow .i64 w a0 len0 cap0 z0) (w1 : IsRow .i64 w a1 len1 cap1 z1) (w2 : IsRow .i64 w a2 len2 cap2 z2) :
    Calls Try.prog 10 #[.slice a0 len0 cap0, .slice a1 len1 cap1, .slice a2 len2 cap2] w fun e w' => e = .returned (.bool true) ∧ Below w.heap.size w w' := by
  obtain ⟨xs, rfl, hr, hl, -⟩ := rd_of_row w0
  obtain ⟨os, rfl, hr', hl', -⟩ := rd_of_row w1
  obtain ⟨ss, rfl, hr2, hl2, -⟩ := rd_of_row w2
  have hcap : xs.length ≤ cap0 := row_cap w0
  unfold maxLen at hl hl' hl2
  by_cases hbig : 1073741824 < xs.length
  · go_enter Try.func10, Try.ntmps10
    go_wp2
    go_ret
    exact ⟨rfl, Below.refl _ _⟩
  · by_cases hbig' : 1073741824 < os.length
    · go_enter Try.func10, Try.ntmps10
      go_wp2
      go_ret
      exact ⟨rfl, Below.refl _ _⟩
    · by_cases hbig2 : 1073741824 < ss.length
      · go_enter Try.func10, Try.ntmps10
        go_wp2
        go_ret
        exact ⟨rfl, Below.refl _ _⟩
      · have HSL := Hid.mk' (shared_length xs os)
        go_enter Try.func10, Try.ntmps10
        go_wp2_with fail
        refine (lent_any a0 cap0 xs _ hr (by omega)).mono ?_
        rintro e v1 ⟨rfl, ho, hb, hsz⟩
        have hr1' := hr'.below hb
        go_wp2_with fail
        refine (lent_any a1 cap1 os _ hr1' (by omega)).mono ?_
        rintro e v2 ⟨rfl, ho', hb2, hsz2⟩
        have hbw2 : Below w.heap.size w v2 := hb.trans (hb2.mono hb.size)
        have hr22 := hr2.below hbw2
        go_wp2_with fail
        refine (lent_any a2 cap2 ss _ hr22 (by omega)).mono ?_
        rintro e v3 ⟨rfl, hoS, hb3, hsz3⟩
        have K : L3 w v1 v2 v3 xs os ss := ⟨(ho.below hb2 hsz).below hb3 (by have := hb2.size; omega), ho'.below hb3 hsz2, hoS, hbw2.trans (hb3.mono hbw2.size)⟩
        have hro : Rd v3 (some ⟨w.heap.size, 0, none⟩) xs := by simpa using K.lent.rd.take xs.length
        have hro' : Rd v3 (some ⟨v1.heap.size, 0, none⟩) os := by simpa using K.lent'.rd.take os.length
        have hroS : Rd v3 (some ⟨v2.heap.size, 0, none⟩) ss := by simpa using K.lentS.rd.take ss.length
        clear ho ho' hoS hr1' hr22 hb2 hb3 hbw2
        go_wp2_with fail
        refine (checkShared_any _ _ _ _ _ _ xs os ss _ hro hro' hroS (by omega) (by omega) (by omega) (by omega)).mono ?_
        rintro e v4 ⟨y, rfl, hy, hb4⟩
        have HY := Hid.mk' hy
        replace K := K.next hb4
        clear hy hb4 hro hro' hroS
        have hr4 := hr.below K.below
        have hr4' := hr'.below K.below
        go_wp2_with fail
        refine (refCheckOrder_any _ _ _ _ xs os _ hr4 hr4' (by omega) (by omega) hcap).mono ?_
        rintro e v5 ⟨z, rfl, hz, hb5⟩
        replace K := K.next hb5
        clear hb5 hr4 hr4'
        have hr5 := hr.below K.below
        have hr5' := hr'.below K.below
        have hr52 := hr2.below K.below
        cases z with
        | false =>
          have hy0 : y = false := by
            cases y with
            | false => rfl
            | true => have := hz.2 (HY.out.1 rfl).1; cases this
          subst hy0
          clear hz HY
          go_wp2_with fail
          refine (whole_any _ _ _ xs _ K.lent hr5 (by omega)).mono ?_
          rintro e v6 ⟨rfl, q6, hv6⟩
          replace K := K.of hv6
          clear hv6 hr5 hr5' hr52
          have hr6' := hr'.below K.below
          go_wp2_with fail
          refine (whole_any _ _ _ os _ K.lent' hr6' (by omega)).mono ?_
          rintro e v7 ⟨rfl, q7, hv7⟩
          replace K := K.of hv7
          clear hv7 hr6'
          have hr72 := hr2.below K.below
          go_wp2_with fail
          refine (whole_any _ _ _ ss _ K.lentS hr72 (by omega)).mono ?_
          rintro e v8 ⟨rfl, q8, rfl⟩
          go_wp2
          go_ret
          exact ⟨rfl, below_drewN K.below q8⟩
        | true =>
          have HT := Hid.mk' (hz.1 rfl)
          clear hz
          have HI := Hid.mk' (refShared_any a0 a1 cap0 cap1 xs os v5 hr5 hr5' (by omega) (by omega) (fun p hp => (HT.out.2.2.2 p).1 hp))
          go_wp2_with fail
          refine HI.out.mono ?_
          rintro e v6 ⟨rfl, hos, hb6⟩
          replace K := K.next hb6
          have hrs := hos.rd
          clear hos hb6 hr5 hr5' hr52 HI
          have hr62 := hr2.below K.below
          go_wp2_with fail
          refine (same_lens _ _ _ _ _ (shared xs os) ss _ hrs hr62 (by rw [HSL.out]; unfold maxLen; omega) (by unfold maxLen; omega) HSL.out).mono ?_
          rintro e v7 ⟨rfl, q7, hv7⟩
          replace K := K.of hv7
          have hyz : y = (shared xs os == ss) := by
            rw [Bool.eq_iff_iff, HY.out, beq_iff_eq]
            exact ⟨fun h => h.2, fun h => ⟨HT.out, h⟩⟩
          rw [← hyz]
          clear hyz hv7 hrs hr62 HY
          have hr7 := hr.below K.below
          go_wp2_with fail
          refine (whole_any _ _ _ xs _ K.lent hr7 (by omega)).mono ?_
          rintro e v8 ⟨rfl, q8, hv8⟩
          replace K := K.of hv8
          clear hv8 hr7
          have hr8' := hr'.below K.below
          go_wp2_with fail
          refine (whole_any _ _ _ os _ K.lent' hr8' (by omega)).mono ?_
          rintro e v9 ⟨rfl, q9, hv9⟩
          replace K := K.of hv9
          clear hv9 hr8'
          have hr92 := hr2.below K.below
          go_wp2_with fail
          refine (whole_any _ _ _ ss _ K.lentS hr92 (by omega)).mono ?_
          rintro e v10 ⟨rfl, q10, rfl⟩
          go_wp2
          go_ret
          exact ⟨rfl, below_drewN K.below q10⟩


set_option maxRecDepth 100000 in
theorem lifted (os : Os) (started : os.Started) (H : Type) (enc : TypeId × Value → H) :
    ReturnsInHanded {} Try.checked os 10 .any (Rows.tablesSpec.pre6 enc Try.prog Try.f10 Rows.tablesRow.domain false) (Rows.tablesSpec.post enc Try.prog Try.f10 false true false false) := by
  refine returnsInHanded_of_change (C := Try.checked) own started (by kernel_rfl) Try.func10
    (ChangeSpec.witness6 (enc := enc) (C := Try.checked) false ⟨#[], #[.slice none 0 0, .slice none 0 0, .slice none 0 0], []⟩ 8 (by kernel_rfl) (by kernel_rfl) (by kernel_rfl) (by kernel_rfl)) ?_
  intro W base args ds gs before hval0 hW hcnd _
  have hval : ∀ (j : Nat) t v, Try.f10.params[j]? = some t → args[j]? = some v → Value.okWide Try.prog W .any base t v := hval0
  have hW' := hW
  obtain ⟨p, q, hA0, hV, rfl, hfz, hnd⟩ := hW
  have hA : DataW.TrodAll enc Try.prog W 0 (fun _ => true) true Try.f10.params.toList args.toList ds p := hA0
  rw [Try.params10] at hA hval
  obtain ⟨v0, vs0, d0, ds0, p0, q0, hargs, rfl, rfl, h0, r0⟩ := trodAll_cons hA
  obtain ⟨v1, vs1, d1, ds1, p1, q1, rfl, rfl, rfl, h1, r1⟩ := trodAll_cons r0
  obtain ⟨v2, vs2, d2, ds2, p2, q2, rfl, rfl, rfl, h2, r2⟩ := trodAll_cons r1
  obtain ⟨rfl, rfl, rfl⟩ := trodAll_nil r2
  obtain rfl : args = #[v0, v1, v2] := by cases args; simp_all
  obtain ⟨rfl, rfl⟩ := trodVars_none hV
  obtain ⟨a0, len0, cap0, rfl⟩ := okWide_slice Try.underlying22 (hval 0 22 v0 rfl rfl)
  have k0 := h0
  have lt0 : ∀ x ∈ p0, x.block < W.heap.size := by obtain ⟨m, hm⟩ := k0; exact DataW.trod_lt m _ _ _ hm
  obtain ⟨z0, w0⟩ : ∃ zs, IsRow .i64 W a0 len0 cap0 zs := by
    obtain ⟨fuel, hf⟩ := h0
    rcases open_ints Try.underlying22 Try.underlying3 (by kernel_rfl) hf with ⟨hcs, _⟩ | ⟨x, l, c, zs, hcs, _, hl, hm, hz, _, hcell, hwz⟩
    · simp [Value.cells] at hcs
      obtain ⟨rfl, rfl, rfl⟩ := hcs
      exact ⟨[], .inl ⟨rfl, rfl, rfl, rfl⟩⟩
    · simp [Value.cells] at hcs
      obtain ⟨rfl, rfl, rfl⟩ := hcs
      exact ⟨zs, .inr ⟨_, rfl, hl, hm, by simpa using hz, hcell, hwz⟩⟩
  obtain ⟨a1, len1, cap1, rfl⟩ := okWide_slice Try.underlying22 (hval 1 22 v1 rfl rfl)
  have k1 := h1
  have lt1 : ∀ x ∈ p1, x.block < W.heap.size := by obtain ⟨m, hm⟩ := k1; exact DataW.trod_lt m _ _ _ hm
  obtain ⟨z1, w1⟩ : ∃ zs, IsRow .i64 W a1 len1 cap1 zs := by
    obtain ⟨fuel, hf⟩ := h1
    rcases open_ints Try.underlying22 Try.underlying3 (by kernel_rfl) hf with ⟨hcs, _⟩ | ⟨x, l, c, zs, hcs, _, hl, hm, hz, _, hcell, hwz⟩
    · simp [Value.cells] at hcs
      obtain ⟨rfl, rfl, rfl⟩ := hcs
      exact ⟨[], .inl ⟨rfl, rfl, rfl, rfl⟩⟩
    · simp [Value.cells] at hcs
      obtain ⟨rfl, rfl, rfl⟩ := hcs
      exact ⟨zs, .inr ⟨_, rfl, hl, hm, by simpa using hz, hcell, hwz⟩⟩
  obtain ⟨a2, len2, cap2, rfl⟩ := okWide_slice Try.underlying22 (hval 2 22 v2 rfl rfl)
  have k2 := h2
  have lt2 : ∀ x ∈ p2, x.block < W.heap.size := by obtain ⟨m, hm⟩ := k2; exact DataW.trod_lt m _ _ _ hm
  obtain ⟨z2, w2⟩ : ∃ zs, IsRow .i64 W a2 len2 cap2 zs := by
    obtain ⟨fuel, hf⟩ := h2
    rcases open_ints Try.underlying22 Try.underlying3 (by kernel_rfl) hf with ⟨hcs, _⟩ | ⟨x, l, c, zs, hcs, _, hl, hm, hz, _, hcell, hwz⟩
    · simp [Value.cells] at hcs
      obtain ⟨rfl, rfl, rfl⟩ := hcs
      exact ⟨[], .inl ⟨rfl, rfl, rfl, rfl⟩⟩
    · simp [Value.cells] at hcs
      obtain ⟨rfl, rfl, rfl⟩ := hcs
      exact ⟨zs, .inr ⟨_, rfl, hl, hm, by simpa using hz, hcell, hwz⟩⟩
  clear hA0 hval0
  refine (walk a0 len0 cap0 z0 a1 len1 cap1 z1 a2 len2 cap2 z2 W w0 w1 w2).mono fun e W' ⟨he, bel⟩ => ?_
  subst he
  exact ⟨_, rfl, _, _, _, [], _, [], hW', trodAll_mk1 (shut_bool Try.underlying4 _), (trodAll_cons_mk (Below.trod laidOut (by kernel_rfl) (of_decide_eq_true (by kernel_rfl)) k0 bel lt0) (trodAll_cons_mk (Below.trod laidOut (by kernel_rfl) (of_decide_eq_true (by kernel_rfl)) k1 bel lt1) (trodAll_cons_mk (Below.trod laidOut (by kernel_rfl) (of_decide_eq_true (by kernel_rfl)) k2 bel lt2) trodAll_mk0))), rfl, bel.frame _, fun h => by cases h⟩

theorem over : Rows.tablesRow.holds Try.pinned (OpenSpec.ofChange Rows.tablesSpec) :=
  OpenClaim.holds_of_wide 10 Try.f10 rfl rfl rfl rfl rfl rfl rfl ⟨rfl, rfl, rfl, rfl, rfl⟩ rfl rfl rfl rfl rfl (by kernel_rfl) Try.func10 (by kernel_rfl)
    (of_decide_eq_true (by kernel_rfl)) (by unfold Func.isWrapper; first | (rw [if_pos (by decide +kernel)]; kernel_rfl) | (rw [if_neg (by decide +kernel)]; exact ⟨rfl, rfl⟩))
    (fun os started H enc _ => lifted os started H enc)


theorem proved : Rows.TablesSaid := over
end Go.Proofs.Ytdhehffdddbmbaa.tables

namespace Go.Proofs.Ytdhehffdddbmbaa
theorem tables_holds : Rows.TablesSaid := tables.proved
#print axioms tables_holds
end Go.Proofs.Ytdhehffdddbmbaa
