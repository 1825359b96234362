import Derived.Test.YtdhehffdddbmbaaLaw
import Derived.Test.YtdhehffdddbmbaaRefOrder
import Derived.Test.YtdhehffdddbmbaaRows
import Derived.WalkKit
import Derived.ProofKit
import Derived.OpenShut
import Derived.ShutString
import Derived.ChangeOld
import Derived.Below
namespace Go.Proofs.Ytdhehffdddbmbaa.orders
open Go.ChangeShapes Go.WideShapes Go.ChangeAt Go.RowKit
open Go.Proofs.Ytdhehffdddbmbaa
open Go.ChangeMaps (open_string shut_string)
set_option linter.unusedVariables false

theorem own : ownKnob Try.prog.godebug = none := by kernel_rfl
theorem laidOut : laidOutB Try.prog = true := by kernel_rfl


def IsRow (k : IntKind) (w : World) (a : Option Addr) (len cap : Nat) (zs : List Int) : Prop :=
  (a = none ∧ len = 0 ∧ cap = 0 ∧ zs = []) ∨
  ∃ x, a = some x ∧ len ≤ cap ∧ cap ≤ maxLen ∧ zs.length = cap ∧ (∀ i, i < zs.length → w.cell? (x.add i) = some (.int k (zs.getD i 0))) ∧ ∀ n ∈ zs, (Lit.int k n).wf = true


set_option maxHeartbeats 8000000 in
set_option maxRecDepth 100000 in
theorem walk (a0 : Option Addr) (len0 cap0 : Nat) (z0 : List Int) (a1 : Option Addr) (len1 cap1 : Nat) (z1 : List Int) (w : World) (w0 : IsRow .i64 w a0 len0 cap0 z0) (w1 : IsRow .i64 w a1 len1 cap1 z1) :
    Calls Try.prog 6 #[.slice a0 len0 cap0, .slice a1 len1 cap1] w fun e w' => e = .returned (.bool true) ∧ Below w.heap.size w w' := by
  obtain ⟨xs, rfl, hr, hl, -⟩ := rd_of_row w0
  obtain ⟨os, rfl, hr', hl', -⟩ := rd_of_row w1
  have hcap : xs.length ≤ cap0 := row_cap w0
  unfold maxLen at hl hl'
  by_cases hbig : 1073741824 < xs.length
  · go_enter Try.func6, Try.ntmps6
    go_wp2
    go_ret
    exact ⟨rfl, Below.refl _ _⟩
  · by_cases hbig' : 1073741824 < os.length
    · go_enter Try.func6, Try.ntmps6
      go_wp2
      go_ret
      exact ⟨rfl, Below.refl _ _⟩
    · go_enter Try.func6, Try.ntmps6
      go_wp2_with fail
      refine (lent_any a0 cap0 xs _ hr (by omega)).mono ?_
      rintro e v1 ⟨rfl, ho, hb, hsz⟩
      have hr1' := hr'.below hb
      go_wp2_with fail
      refine (lent_any a1 cap1 os _ hr1' (by omega)).mono ?_
      rintro e v2 ⟨rfl, ho', hb2, hsz2⟩
      have ho2 : Own v2 w.heap.size (xs ++ [77, 77]) := ho.below hb2 hsz
      have hb02 : Below w.heap.size w v2 := hb.trans (hb2.mono hb.size)
      have hro : Rd v2 (some ⟨w.heap.size, 0, none⟩) xs := by simpa using ho2.rd.take xs.length
      have hro' : Rd v2 (some ⟨v1.heap.size, 0, none⟩) os := by simpa using ho'.rd.take os.length
      clear ho hr1' hb2
      go_wp2_with fail
      refine (checkOrder_any _ _ _ _ xs os _ hro hro' (by omega) (by omega) (by omega)).mono ?_
      rintro e v3 ⟨y, rfl, hy, q3, hv3⟩
      have HY := Hid.mk' hy
      have ho3 : Own v3 w.heap.size (xs ++ [77, 77]) := by rw [hv3]; exact ho2
      have ho3' : Own v3 v1.heap.size (os ++ [77, 77]) := by rw [hv3]; exact ho'
      have hb03 : Below w.heap.size w v3 := by rw [hv3]; exact below_drewN hb02 q3
      clear hy hv3 ho2 ho' hb02 hro hro'
      have hr3 := hr.below hb03
      have hr3' := hr'.below hb03
      have hlt3 := ho3'.lt
      go_wp2_with fail
      refine (refCheckOrder_any _ _ _ _ xs os _ hr3 hr3' (by omega) (by omega) hcap).mono ?_
      rintro e v4 ⟨z, rfl, hz, hb4⟩
      have hyz : y = z := Bool.eq_iff_iff.2 (HY.out.trans hz.symm)
      subst hyz
      have ho4 : Own v4 w.heap.size (xs ++ [77, 77]) := ho3.below hb4 ho3.lt
      have ho4' : Own v4 v1.heap.size (os ++ [77, 77]) := ho3'.below hb4 ho3'.lt
      have hb04 : Below w.heap.size w v4 := hb03.trans (hb4.mono hb03.size)
      have hr4 := hr.below hb04
      clear hz HY ho3 ho3' hb03 hr3 hr3' hb4
      go_wp2_with fail
      refine (whole_any _ _ _ xs _ ho4 hr4 (by omega)).mono ?_
      rintro e v5 ⟨rfl, q5, hv5⟩
      have ho5' : Own v5 v1.heap.size (os ++ [77, 77]) := by rw [hv5]; exact ho4'
      have hb05 : Below w.heap.size w v5 := by rw [hv5]; exact below_drewN hb04 q5
      have hr5' := hr'.below hb05
      clear hv5 ho4 ho4' hb04 hr4
      go_wp2_with fail
      refine (whole_any _ _ _ os _ ho5' hr5' (by omega)).mono ?_
      rintro e v6 ⟨rfl, q6, rfl⟩
      go_wp2
      go_ret
      exact ⟨rfl, below_drewN hb05 q6⟩


set_option maxRecDepth 100000 in
theorem lifted (os : Os) (started : os.Started) (H : Type) (enc : TypeId × Value → H) :
    ReturnsInHanded {} Try.checked os 6 .any (Rows.ordersSpec.pre6 enc Try.prog Try.f6 Rows.ordersRow.domain false) (Rows.ordersSpec.post enc Try.prog Try.f6 false true false false) := by
  refine returnsInHanded_of_change (C := Try.checked) own started (by kernel_rfl) Try.func6
    (ChangeSpec.witness6 (enc := enc) (C := Try.checked) false ⟨#[], #[.slice none 0 0, .slice none 0 0], []⟩ 8 (by kernel_rfl) (by kernel_rfl) (by kernel_rfl) (by kernel_rfl)) ?_
  intro W base args ds gs before hval0 hW hcnd _
  have hval : ∀ (j : Nat) t v, Try.f6.params[j]? = some t → args[j]? = some v → Value.okWide Try.prog W .any base t v := hval0
  have hW' := hW
  obtain ⟨p, q, hA0, hV, rfl, hfz, hnd⟩ := hW
  have hA : DataW.TrodAll enc Try.prog W 0 (fun _ => true) true Try.f6.params.toList args.toList ds p := hA0
  rw [Try.params6] at hA hval
  obtain ⟨v0, vs0, d0, ds0, p0, q0, hargs, rfl, rfl, h0, r0⟩ := trodAll_cons hA
  obtain ⟨v1, vs1, d1, ds1, p1, q1, rfl, rfl, rfl, h1, r1⟩ := trodAll_cons r0
  obtain ⟨rfl, rfl, rfl⟩ := trodAll_nil r1
  obtain rfl : args = #[v0, v1] := by cases args; simp_all
  obtain ⟨rfl, rfl⟩ := trodVars_none hV
  obtain ⟨a0, len0, cap0, rfl⟩ := okWide_slice Try.underlying22 (hval 0 22 v0 rfl rfl)
  have k0 := h0
  have lt0 : ∀ x ∈ p0, x.block < W.heap.size := by obtain ⟨m, hm⟩ := k0; exact DataW.trod_lt m _ _ _ hm
  obtain ⟨z0, w0⟩ : ∃ zs, IsRow .i64 W a0 len0 cap0 zs := by
    obtain ⟨fuel, hf⟩ := h0
    rcases open_ints Try.underlying22 Try.underlying3 (by kernel_rfl) hf with ⟨hcs, _⟩ | ⟨x, l, c, zs, hcs, _, hl, hm, hz, _, hcell, hwz⟩
    · simp [Value.cells] at hcs
      obtain ⟨rfl, rfl, rfl⟩ := hcs
      exact ⟨[], .inl ⟨rfl, rfl, rfl, rfl⟩⟩
    · simp [Value.cells] at hcs
      obtain ⟨rfl, rfl, rfl⟩ := hcs
      exact ⟨zs, .inr ⟨_, rfl, hl, hm, by simpa using hz, hcell, hwz⟩⟩
  obtain ⟨a1, len1, cap1, rfl⟩ := okWide_slice Try.underlying22 (hval 1 22 v1 rfl rfl)
  have k1 := h1
  have lt1 : ∀ x ∈ p1, x.block < W.heap.size := by obtain ⟨m, hm⟩ := k1; exact DataW.trod_lt m _ _ _ hm
  obtain ⟨z1, w1⟩ : ∃ zs, IsRow .i64 W a1 len1 cap1 zs := by
    obtain ⟨fuel, hf⟩ := h1
    rcases open_ints Try.underlying22 Try.underlying3 (by kernel_rfl) hf with ⟨hcs, _⟩ | ⟨x, l, c, zs, hcs, _, hl, hm, hz, _, hcell, hwz⟩
    · simp [Value.cells] at hcs
      obtain ⟨rfl, rfl, rfl⟩ := hcs
      exact ⟨[], .inl ⟨rfl, rfl, rfl, rfl⟩⟩
    · simp [Value.cells] at hcs
      obtain ⟨rfl, rfl, rfl⟩ := hcs
      exact ⟨zs, .inr ⟨_, rfl, hl, hm, by simpa using hz, hcell, hwz⟩⟩
  clear hA0 hval0
  refine (walk a0 len0 cap0 z0 a1 len1 cap1 z1 W w0 w1).mono fun e W' ⟨he, bel⟩ => ?_
  subst he
  exact ⟨_, rfl, _, _, _, [], _, [], hW', trodAll_mk1 (shut_bool Try.underlying4 _), (trodAll_cons_mk (Below.trod laidOut (by kernel_rfl) (of_decide_eq_true (by kernel_rfl)) k0 bel lt0) (trodAll_cons_mk (Below.trod laidOut (by kernel_rfl) (of_decide_eq_true (by kernel_rfl)) k1 bel lt1) trodAll_mk0)), rfl, bel.frame _, fun h => by cases h⟩

theorem over : Rows.ordersRow.holds Try.pinned (OpenSpec.ofChange Rows.ordersSpec) :=
  OpenClaim.holds_of_wide 6 Try.f6 rfl rfl rfl rfl rfl rfl rfl ⟨rfl, rfl, rfl, rfl, rfl⟩ rfl rfl rfl rfl rfl (by kernel_rfl) Try.func6 (by kernel_rfl)
    (of_decide_eq_true (by kernel_rfl)) (by unfold Func.isWrapper; first | (rw [if_pos (by decide +kernel)]; kernel_rfl) | (rw [if_neg (by decide +kernel)]; exact ⟨rfl, rfl⟩))
    (fun os started H enc _ => lifted os started H enc)


theorem proved : Rows.OrdersSaid := over
end Go.Proofs.Ytdhehffdddbmbaa.orders

namespace Go.Proofs.Ytdhehffdddbmbaa
theorem orders_holds : Rows.OrdersSaid := orders.proved
#print axioms orders_holds
end Go.Proofs.Ytdhehffdddbmbaa
