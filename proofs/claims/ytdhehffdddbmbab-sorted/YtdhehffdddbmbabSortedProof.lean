import Derived.Test.YtdhehffdddbmbabLaw
import Derived.Test.YtdhehffdddbmbabKeep2
import Derived.Test.YtdhehffdddbmbabBuild
import Derived.Test.YtdhehffdddbmbabRows
import Derived.WalkKit
import Derived.ProofKit
import Derived.OpenShut
import Derived.ShutString
import Derived.ChangeOld
import Derived.Below
namespace Go.Proofs.Ytdhehffdddbmbab.sorted
open Go.ChangeShapes Go.WideShapes Go.ChangeAt Go.RowKit
open Go.Proofs.Ytdhehffdddbmbab
open Go.ChangeMaps (open_string shut_string)
set_option linter.unusedVariables false

theorem own : ownKnob Try.prog.godebug = none := by kernel_rfl
theorem laidOut : laidOutB Try.prog = true := by kernel_rfl


def IsRow (k : IntKind) (w : World) (a : Option Addr) (len cap : Nat) (zs : List Int) : Prop :=
  (a = none ∧ len = 0 ∧ cap = 0 ∧ zs = []) ∨
  ∃ x, a = some x ∧ len ≤ cap ∧ cap ≤ maxLen ∧ zs.length = cap ∧ (∀ i, i < zs.length → w.cell? (x.add i) = some (.int k (zs.getD i 0))) ∧ ∀ n ∈ zs, (Lit.int k n).wf = true


set_option maxHeartbeats 8000000 in
set_option maxRecDepth 100000 in
theorem walk (a0 : Option Addr) (len0 cap0 : Nat) (z0 : List Int) (a1 : Int) (a2 : Int) (w : World) (w0 : IsRow .i64 w a0 len0 cap0 z0) (w1 : (Lit.int .i64 a1).wf = true) (w2 : (Lit.int .i64 a2).wf = true) :
    Calls Try.prog 3 #[.slice a0 len0 cap0, .int .i64 a1, .int .i64 a2] w fun e w' => e = .returned (.bool true) ∧ Below w.heap.size w w' := by
  obtain ⟨xs, rfl, hr, hl, hx⟩ := rd_of_row w0
  obtain ⟨i0, hi, hz0, hz1, hz2⟩ := info_parts Try.infoBool
  have HG := Hid.mk' (wf_range w1)
  have HH := Hid.mk' (wf_range w2)
  have HSC := Hid.mk' (someOf_scan xs)
  have htl := someOf_le xs
  go_enter Try.func3, Try.ntmps3
  go_wp2_with fail
  refine (some_any _ _ xs _ hr hl hx).mono ?_
  rintro e v1 ⟨r, rfl, hown1, hb1⟩
  generalize someOf xs = ts at HSC htl hown1 ⊢
  obtain ⟨T, cT, rfl, hrT, -, hTc, hTm⟩ := owns_slice hown1
  clear hown1
  go_wp2_with fail
  refine (kbuilt_any buildAnys _ _ ts a1 a2 _ hrT hTc hTm HSC.out HG.out HH.out).mono ?_
  rintro e v2 ⟨gp, vo, vs, L, zw, rfl, hA⟩
  obtain ⟨A, cA, rfl, hrA, hAl, -, -⟩ := owns_slice hA.own
  obtain ⟨S, cS, rfl, hrS, hSl, -, -⟩ := owns_slice hA.own'
  have hrT2 := hrT.below hA.below
  have hb02 : Below w.heap.size w v2 := hb1.trans (hA.below.mono hb1.size)
  have HOr := Hid.mk' hA.ord
  have HAl := Hid.mk' hAl
  have HSl := Hid.mk' hSl
  have HC := Hid.mk' (And.intro hA.at0 (And.intro hA.at1 hA.ptr.2))
  clear hA hAl hSl hrT
  go_wp2_with (at_make; refine wpList_make_full _ rfl _ _ 27 rfl v2.heap.size 4 i0 (.bool false) 1 Try.underlying27 hi hz0 hz1 _ _ _ _ ts.length rfl rfl (by omega) (by omega) ?b2 ?b3 (Nat.le_refl _) ?_)
  case b2 => rw [hz2]; omega
  case b3 => unfold maxLen; omega
  intro v3 hown0 hgrow0
  obtain ⟨ho, hb3, hs3⟩ := made_bools hown0 hgrow0
  clear hown0 hgrow0
  go_wp2
  go_loopw [11] (fun i wr => ∃ (n : Nat) (hs : List Value), n ≤ ts.length ∧ i = .int .i64 n ∧ Hid (Had L ts.length n hs) ∧ Hid (OwnV wr v2.heap.size 4 hs) ∧ Hid (Below v2.heap.size v2 wr)) (fun i _ => ts.length - (intOf i).toNat)
  case atStart => exact ⟨0, _, Nat.zero_le _, rfl, Had.start _ _, ho, hb3⟩
  case round =>
    clear ho hb3 hs3
    obtain ⟨n, hs, hn, rfl, HHad, HO, HB⟩ := hrel
    have hc0 := (HB.out.cell (p := ⟨gp, 0, none⟩) HC.out.2.2).trans HC.out.1
    have hc1 := (HB.out.cell (p := ⟨gp, 1, none⟩) HC.out.2.2).trans HC.out.2.1
    by_cases hlt : n < ts.length
    · have hnL : n < L.length := by have := HAl.out; omega
      have hnS : n < (shared ts L).length := by have := HSl.out; omega
      have hrA3 := hrA.below HB.out
      have hrS3 := hrS.below HB.out
      have hrT3 := hrT2.below HB.out
      have hat := OrdTo.at HOr.out hlt
      obtain ⟨bA, oA, rfl, hbA, hcA⟩ := hrA3.at hnL
      obtain ⟨bS, oS, rfl, hbS, hcS⟩ := hrS3.at hnS
      have hc2 := hcA n hnL
      have hc3 := hcS n hnS
      obtain ⟨p, hp⟩ : ∃ p : Nat, L.getD n 0 = p := ⟨(L.getD n 0).toNat, by omega⟩
      rw [hp] at hc2
      have hpl : p < ts.length := by omega
      have hsat : (shared ts L).getD n 0 = sharedAt ts L n := by rw [List.getD, shared_at hnL]; rfl
      rw [hsat] at hc3
      have hch := HO.out.get (HHad.out.no HOr.out hnL hp hpl)
      have hfz := HO.out.frozen p
      have HS := Hid.mk' (HHad.out.step hnL hp)
      have hne : bA ≠ v2.heap.size := rd_ne hrA (by omega) rfl rfl
      have hneS : bS ≠ v2.heap.size := rd_ne hrS (by omega) rfl rfl
      have hgp : gp ≠ v2.heap.size := by have := HC.out.2.2; omega
      cases n with
      | zero =>
        rw [show sharedAt ts L 0 = 0 from rfl, Nat.add_zero] at hc3
        rw [Nat.add_zero] at hc2
        clear hcA hcS hp hat hsat
        go_wp2
        go_roundw
        case rel => exact ⟨1, _, by omega, by go_num, HS, HO.out.set p _, HB.out.setCell (Nat.le_refl _) _⟩
        case measure => simp [intOf]; omega
      | succ m =>
        have hmL : m < L.length := by omega
        have hc4 := hcA m hmL
        have hat2 := OrdTo.at HOr.out (i := m) (by omega)
        obtain ⟨p2, hp2⟩ : ∃ p : Nat, L.getD m 0 = p := ⟨(L.getD m 0).toNat, by omega⟩
        rw [hp2] at hc4
        have hpl2 : p2 < ts.length := by omega
        rw [show sharedAt ts L (m + 1) = (cm ts p2 p : Int) by unfold sharedAt; rw [if_neg (by omega), show m + 1 - 1 = m by omega, hp, hp2]; rfl] at hc3
        have hup : lt (ts.drop p2) (ts.drop p) = true := by
          have := List.pairwise_iff_getElem.1 HOr.out.1 m (m + 1) hmL hnL (by omega)
          have e1 : L[m] = (p2 : Int) := by rw [← hp2]; simp [List.getD, hmL]
          have e2 : L[m + 1] = (p : Int) := by rw [← hp]; simp [List.getD, hnL]
          rw [e1, e2] at this
          exact this
        have HUp := Hid.mk' hup
        clear hcA hcS hp hat hp2 hat2 hup hsat
        have hrT4 : Rd (wr.setCell ⟨v2.heap.size, p, none⟩ (.bool true)) T ts := rd_set hrT2 hrT3 _ _
        go_wp2_with fail
        refine (kless_any _ _ ts p2 p _ hrT4 (by omega) (by omega) (by omega)).mono ?_
        rintro e u1 ⟨rfl, q1, hu1⟩
        rw [HUp.out]
        have hrT5 : Rd u1 T ts := by rw [hu1]; exact hrT4
        have k0 : u1.cell? ⟨gp, 0, none⟩ = some (.slice (some ⟨bA, oA, none⟩) ts.length cA) := by rw [hu1]; exact (cell_set _ hgp).trans hc0
        have k1 : u1.cell? ⟨gp, 1, none⟩ = some (.slice (some ⟨bS, oS, none⟩) ts.length cS) := by rw [hu1]; exact (cell_set _ hgp).trans hc1
        have k3 : u1.cell? ⟨bS, oS + (m + 1), none⟩ = some (.int .i64 (cm ts p2 p)) := by rw [hu1]; exact (cell_set _ hneS).trans hc3
        have k4 : u1.cell? ⟨bA, oA + m, none⟩ = some (.int .i64 p2) := by rw [hu1]; exact (cell_set _ hne).trans hc4
        have HU := Hid.mk' hu1
        clear hu1 hrT4 hc0 hc1 hc2 hc3 hc4 hch hfz
        go_wp2_with fail
        refine (kcommon_any _ _ ts p2 p _ hrT5 (by omega) (by omega) (by omega)).mono ?_
        rintro e u2 ⟨rfl, q2, hu2⟩
        have j0 : u2.cell? ⟨gp, 0, none⟩ = some (.slice (some ⟨bA, oA, none⟩) ts.length cA) := by rw [hu2]; exact k0
        have j1 : u2.cell? ⟨gp, 1, none⟩ = some (.slice (some ⟨bS, oS, none⟩) ts.length cS) := by rw [hu2]; exact k1
        have j3 : u2.cell? ⟨bS, oS + (m + 1), none⟩ = some (.int .i64 (cm ts p2 p)) := by rw [hu2]; exact k3
        have HU2 := Hid.mk' hu2
        clear hu2 k0 k1 k3 k4 hrT5
        go_wp2
        go_roundw
        case rel => exact ⟨m + 1 + 1, _, by omega, by go_num, HS, by rw [HU2.out, HU.out]; exact ((HO.out.set p _).drewN q1).drewN q2, by rw [HU2.out, HU.out]; exact below_drewN (below_drewN (HB.out.setCell (Nat.le_refl _) _) q1) q2⟩
        case measure => simp [intOf]; omega
    · go_wp2
      go_ret
      exact ⟨rfl, hb02.trans (HB.out.mono hb02.size)⟩


set_option maxRecDepth 100000 in
theorem lifted (os : Os) (started : os.Started) (H : Type) (enc : TypeId × Value → H) :
    ReturnsInHanded {} Try.checked os 3 .any (Rows.sortedSpec.pre6 enc Try.prog Try.f3 Rows.sortedRow.domain false) (Rows.sortedSpec.post enc Try.prog Try.f3 false true false false) := by
  refine returnsInHanded_of_change (C := Try.checked) own started (by kernel_rfl) Try.func3
    (ChangeSpec.witness6 (enc := enc) (C := Try.checked) false ⟨#[], #[.slice none 0 0, .int .i64 0, .int .i64 0], []⟩ 8 (by kernel_rfl) (by kernel_rfl) (by kernel_rfl) (by kernel_rfl)) ?_
  intro W base args ds gs before hval0 hW hcnd _
  have hval : ∀ (j : Nat) t v, Try.f3.params[j]? = some t → args[j]? = some v → Value.okWide Try.prog W .any base t v := hval0
  have hW' := hW
  obtain ⟨p, q, hA0, hV, rfl, hfz, hnd⟩ := hW
  have hA : DataW.TrodAll enc Try.prog W 0 (fun _ => true) true Try.f3.params.toList args.toList ds p := hA0
  rw [Try.params3] at hA hval
  obtain ⟨v0, vs0, d0, ds0, p0, q0, hargs, rfl, rfl, h0, r0⟩ := trodAll_cons hA
  obtain ⟨v1, vs1, d1, ds1, p1, q1, rfl, rfl, rfl, h1, r1⟩ := trodAll_cons r0
  obtain ⟨v2, vs2, d2, ds2, p2, q2, rfl, rfl, rfl, h2, r2⟩ := trodAll_cons r1
  obtain ⟨rfl, rfl, rfl⟩ := trodAll_nil r2
  obtain rfl : args = #[v0, v1, v2] := by cases args; simp_all
  obtain ⟨rfl, rfl⟩ := trodVars_none hV
  obtain ⟨a0, len0, cap0, rfl⟩ := okWide_slice Try.underlying22 (hval 0 22 v0 rfl rfl)
  have k0 := h0
  have lt0 : ∀ x ∈ p0, x.block < W.heap.size := by obtain ⟨m, hm⟩ := k0; exact DataW.trod_lt m _ _ _ hm
  obtain ⟨z0, w0⟩ : ∃ zs, IsRow .i64 W a0 len0 cap0 zs := by
    obtain ⟨fuel, hf⟩ := h0
    rcases open_ints Try.underlying22 Try.underlying3 (by kernel_rfl) hf with ⟨hcs, _⟩ | ⟨x, l, c, zs, hcs, _, hl, hm, hz, _, hcell, hwz⟩
    · simp [Value.cells] at hcs
      obtain ⟨rfl, rfl, rfl⟩ := hcs
      exact ⟨[], .inl ⟨rfl, rfl, rfl, rfl⟩⟩
    · simp [Value.cells] at hcs
      obtain ⟨rfl, rfl, rfl⟩ := hcs
      exact ⟨zs, .inr ⟨_, rfl, hl, hm, by simpa using hz, hcell, hwz⟩⟩
  obtain ⟨a1, rfl, rfl, rfl, w1⟩ := open_int Try.underlying3 (hval 1 3 v1 rfl rfl) h1
  obtain ⟨a2, rfl, rfl, rfl, w2⟩ := open_int Try.underlying3 (hval 2 3 v2 rfl rfl) h2
  clear hA0 hval0
  refine (walk a0 len0 cap0 z0 a1 a2 W w0 w1 w2).mono fun e W' ⟨he, bel⟩ => ?_
  subst he
  exact ⟨_, rfl, _, _, _, [], _, [], hW', trodAll_mk1 (shut_bool Try.underlying4 _), (trodAll_cons_mk (Below.trod laidOut (by kernel_rfl) (of_decide_eq_true (by kernel_rfl)) k0 bel lt0) (trodAll_cons_mk (shut_int Try.underlying3 w1) (trodAll_cons_mk (shut_int Try.underlying3 w2) trodAll_mk0))), rfl, bel.frame _, fun h => by cases h⟩

theorem over : Rows.sortedRow.holds Try.pinned (OpenSpec.ofChange Rows.sortedSpec) :=
  OpenClaim.holds_of_wide 3 Try.f3 rfl rfl rfl rfl rfl rfl rfl ⟨rfl, rfl, rfl, rfl, rfl⟩ rfl rfl rfl rfl rfl (by kernel_rfl) Try.func3 (by kernel_rfl)
    (of_decide_eq_true (by kernel_rfl)) (by unfold Func.isWrapper; first | (rw [if_pos (by decide +kernel)]; kernel_rfl) | (rw [if_neg (by decide +kernel)]; exact ⟨rfl, rfl⟩))
    (fun os started H enc _ => lifted os started H enc)


theorem proved : Rows.SortedSaid := over
end Go.Proofs.Ytdhehffdddbmbab.sorted

namespace Go.Proofs.Ytdhehffdddbmbab
theorem sorted_holds : Rows.SortedSaid := sorted.proved
#print axioms sorted_holds
end Go.Proofs.Ytdhehffdddbmbab
