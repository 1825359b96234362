import Derived.Test.YtdhehffdddbmbabLaw
import Derived.Test.YtdhehffdddbmbabKeepTold2
import Derived.Test.YtdhehffdddbmbabBuild
import Derived.Test.YtdhehffdddbmbabRows
import Derived.WalkKit
import Derived.ProofKit
import Derived.OpenShut
import Derived.ShutString
import Derived.ChangeOld
import Derived.Below
namespace Go.Proofs.Ytdhehffdddbmbab.told
open Go.ChangeShapes Go.WideShapes Go.ChangeAt Go.RowKit
open Go.Proofs.Ytdhehffdddbmbab
open Go.ChangeMaps (open_string shut_string)
set_option linter.unusedVariables false

theorem own : ownKnob Try.prog.godebug = none := by kernel_rfl
theorem laidOut : laidOutB Try.prog = true := by kernel_rfl


def IsRow (k : IntKind) (w : World) (a : Option Addr) (len cap : Nat) (zs : List Int) : Prop :=
  (a = none ∧ len = 0 ∧ cap = 0 ∧ zs = []) ∨
  ∃ x, a = some x ∧ len ≤ cap ∧ cap ≤ maxLen ∧ zs.length = cap ∧ (∀ i, i < zs.length → w.cell? (x.add i) = some (.int k (zs.getD i 0))) ∧ ∀ n ∈ zs, (Lit.int k n).wf = true


set_option maxHeartbeats 8000000 in
set_option maxRecDepth 100000 in
theorem walk (a0 : Option Addr) (len0 cap0 : Nat) (z0 : List Int) (a1 : Int) (a2 : Int) (a3 : Int) (a4 : Int) (w : World) (w0 : IsRow .i64 w a0 len0 cap0 z0) (w1 : (Lit.int .i64 a1).wf = true) (w2 : (Lit.int .i64 a2).wf = true) (w3 : (Lit.int .i64 a3).wf = true) (w4 : (Lit.int .i64 a4).wf = true) :
    Calls Try.prog 5 #[.slice a0 len0 cap0, .int .i64 a1, .int .i64 a2, .int .i64 a3, .int .i64 a4] w fun e w' => e = .returned (.bool true) ∧ Below w.heap.size w w' := by
  obtain ⟨xs, rfl, hr, hl, hx⟩ := rd_of_row w0
  have HG1 := Hid.mk' (wf_range w1)
  have HG2 := Hid.mk' (wf_range w2)
  have HG3 := Hid.mk' (wf_range w3)
  have HSC := Hid.mk' (someOf_scan xs)
  have htl := someOf_le xs
  go_enter Try.func5, Try.ntmps5
  go_wp2_with fail
  refine (some_any _ _ xs _ hr hl hx).mono ?_
  rintro e v1 ⟨r, rfl, hown1, hb1⟩
  generalize someOf xs = ts at HSC htl hown1 ⊢
  obtain ⟨T, cT, rfl, hrT, -, hTc, hTm⟩ := owns_slice hown1
  clear hown1
  go_wp2_with fail
  refine (kbuilt_any buildAnys _ _ ts a1 a3 _ hrT hTc hTm HSC.out HG1.out HG3.out).mono ?_
  rintro e v2 ⟨gp, vo, vs, L, zw, rfl, hA⟩
  have HOr := Hid.mk' hA.ord
  have HLl := Hid.mk' (OrdTo.length hA.ord)
  have HSl := Hid.mk' ((shared_length ts L).trans (OrdTo.length hA.ord))
  by_cases hn : ts.length = 0
  · obtain ⟨A, cA, rfl, hrA, hAl, -, -⟩ := owns_slice hA.own
    obtain ⟨S, cS, rfl, hrS, hSl, -, -⟩ := owns_slice hA.own'
    have hrT2 := hrT.below hA.below
    have HB2 : Hid (Below w.heap.size w v2) := hb1.trans (hA.below.mono hb1.size)
    have c0 := hA.at0
    have c1 := hA.at1
    have HPt := Hid.mk' hA.ptr.2
    have hlz : ((ts.length : Int) == 0) = true := by rw [beq_iff_eq]; omega
    have HNo : Hid (Told ts [a4] ↔ false = true) := ⟨fun h => by have := OrdTo.length h.2.2; simp at this; omega, fun h => by cases h⟩
    clear hA hrT hb1 HG1 HG2 HG3 hAl hSl hn
    go_wp2_with fail
    refine (checkOrder_is _ _ _ _ _ _ ts L _ hrT2 hrA (by omega) (by have := HLl.out; omega) hTc rfl HLl.out true ⟨fun _ => rfl, fun _ => told_yes HSC.out HOr.out⟩).mono ?_
    rintro e v3 ⟨rfl, q3, hv3⟩
    have HB3 : Hid (Below w.heap.size w v3) := by rw [Hid, hv3]; exact below_drewN HB2.out q3
    have d0 : v3.cell? ⟨gp, 0, none⟩ = some (.slice A ts.length cA) := by rw [hv3]; exact c0
    have d1 : v3.cell? ⟨gp, 1, none⟩ = some (.slice S ts.length cS) := by rw [hv3]; exact c1
    have hrT3 : Rd v3 T ts := by rw [hv3]; exact hrT2
    have hrA3 : Rd v3 A L := by rw [hv3]; exact hrA
    have hrS3 : Rd v3 S (shared ts L) := by rw [hv3]; exact hrS
    have HP3 : Hid (gp < v3.heap.size) := by rw [Hid, hv3]; exact HPt.out
    clear hv3 c0 c1 hrT2 hrA hrS HB2 HPt
    go_wp2
    go_region_held3 (fun w' => w'.cell? ⟨gp, 0, none⟩ = some (.slice A ts.length cA) ∧ w'.cell? ⟨gp, 1, none⟩ = some (.slice S ts.length cS)) (go_keep) ((go_at_call 16; refine (checkShared_is _ _ _ _ _ _ _ _ _ ts L (shared ts L) _ (by exact hrT3) (by exact hrA3) (by exact hrS3) (by omega) (by have := HLl.out; omega) (by have := HSl.out; omega) hTc rfl HLl.out HSl.out true ⟨fun _ => rfl, fun _ => ⟨told_yes HSC.out HOr.out, rfl⟩⟩).mono ?_; rintro e v4 ⟨rfl, hb4⟩; have hk0 := (hb4.cell (p := ⟨gp, 0, none⟩) HP3.out).trans d0; have hk1 := (hb4.cell (p := ⟨gp, 1, none⟩) HP3.out).trans d1))
    have HB4 : Hid (Below w.heap.size w v4) := HB3.out.trans ((below_drewN (Below.refl _ _) _).trans (hb4.mono (Nat.le_refl _)) |>.mono HB3.out.size)
    have hrT4 : Rd v4 T ts := Rd.below (w := v3.drewN 1) (by exact hrT3) hb4
    clear hk0 hk1 d0 d1 hb4 HB3 hrT3 hrA3 hrS3 HP3
    have ho : Own (v4.alloc (Obj.cells #[.int .i64 a4] 3)) v4.heap.size [a4] := own_alloc1 v4 a4
    have hrT5 : Rd (v4.alloc (Obj.cells #[.int .i64 a4] 3)) T ts := hrT4.below ((Below.refl _ _).alloc (Nat.le_refl _) _)
    have HB5 : Hid (Below w.heap.size w (v4.alloc (Obj.cells #[.int .i64 a4] 3))) := HB4.out.alloc HB4.out.size _
    go_wp2_with fail
    refine (checkOrder_is _ _ _ _ _ _ ts [a4] _ hrT5 ho.rd (by omega) (by simp) hTc rfl rfl false HNo.out).mono ?_
    rintro e v5 ⟨rfl, q5, hv5⟩
    have HB6 : Hid (Below w.heap.size w v5) := by rw [Hid, hv5]; exact below_drewN HB5.out q5
    clear hv5
    go_wp2
    go_ret
    exact ⟨rfl, HB6.out⟩
  · obtain ⟨gA, gS, cA, cS, rfl, rfl, K2⟩ := TK.of hA hb1 hrT (by omega)
    clear hA hrT hb1
    have hx0 := pk_lt a2 (n := ts.length) (by omega)
    have hy0 := pk_lt a3 (n := ts.length) (by omega)
    have HP2 := Hid.mk' (fun W => pick_any a2 ts.length W HG2.out (by omega) (by omega))
    have HP3 := Hid.mk' (fun W => pick_any a3 ts.length W HG3.out (by omega) (by omega))
    clear HG1 HG2 HG3
    generalize pk a2 ts.length = x at hx0 HP2
    generalize pk a3 ts.length = y at hy0 HP3
    have c0 := K2.at0
    have c1 := K2.at1
    have HK2 := Hid.mk' K2
    clear K2
    go_wp2_with fail
    refine (checkOrder_is _ _ _ _ _ _ ts L _ HK2.out.rd HK2.out.wA.rd (by omega) (by have := HLl.out; omega) hTc rfl HLl.out true ⟨fun _ => rfl, fun _ => told_yes HSC.out HOr.out⟩).mono ?_
    rintro e v3 ⟨rfl, q3, hv3⟩
    have HK3 : Hid (TK w v3 gp gA gS cA cS ts.length T ts L (shared ts L)) := by rw [Hid, hv3]; exact HK2.out.drewN q3
    clear hv3 HK2 c0 c1
    have c0 := HK3.out.at0
    have c1 := HK3.out.at1
    go_wp2
    go_region_held3 (fun w' => w'.cell? ⟨gp, 0, none⟩ = some (.slice (some ⟨gA, 0, none⟩) ts.length cA) ∧ w'.cell? ⟨gp, 1, none⟩ = some (.slice (some ⟨gS, 0, none⟩) ts.length cS)) (go_keep) ((go_at_call 16; refine (checkShared_is _ _ _ _ _ _ _ _ _ ts L (shared ts L) _ (HK3.out.drewN _).rd (HK3.out.drewN _).wA.rd (HK3.out.drewN _).wS.rd (by omega) (by have := HLl.out; omega) (by have := HSl.out; omega) hTc rfl HLl.out HSl.out true ⟨fun _ => rfl, fun _ => ⟨told_yes HSC.out HOr.out, rfl⟩⟩).mono ?_; rintro e v4 ⟨rfl, hb4⟩; have HK4 := Hid.mk' ((HK3.out.drewN _).next hb4); have hk0 := HK4.out.at0; have hk1 := HK4.out.at1))
    clear hk0 hk1 c0 c1 HK3 hb4
    have hlz : ((ts.length : Int) == 0) = false := by rw [beq_eq_false_iff_ne]; omega
    go_wp2_with fail
    refine (HP2.out _).mono ?_
    rintro e v5 ⟨rfl, rfl⟩
    go_wp2_with fail
    refine (HP3.out _).mono ?_
    rintro e v6 ⟨rfl, rfl⟩
    clear HP2 HP3
    have c0 := HK4.out.at0
    have c1 := HK4.out.at1
    obtain ⟨s, hsE⟩ : ∃ s, (shared ts L).getD x 0 = s := ⟨_, rfl⟩
    obtain ⟨px, hpx⟩ : ∃ px, L.getD x 0 = px := ⟨_, rfl⟩
    obtain ⟨py, hpy⟩ : ∃ py, L.getD y 0 = py := ⟨_, rfl⟩
    have hs := HK4.out.wS.cell (i := x) (by have := HSl.out; omega)
    have p0 := HK4.out.wA.cell (i := x) (by have := HLl.out; omega)
    have p1 := HK4.out.wA.cell (i := y) (by have := HLl.out; omega)
    have f0 := HK4.out.wA.frozen x
    rw [hsE] at hs
    rw [hpx] at p0
    rw [hpy] at p1
    have HSE := Hid.mk' hsE
    have HPX := Hid.mk' hpx
    have HPY := Hid.mk' hpy
    clear hsE hpx hpy
    have hxL : x < L.length := by have := HLl.out; omega
    have hyL : y < L.length := by have := HLl.out; omega
    by_cases hv : a4 = s
    · have hvb : (a4 != s) = false := by simp [hv]
      clear hv
      have kA := HK4.out.ne.1
      go_wp2
      go_region_held3 (fun w' => w'.cell? ⟨gp, 0, none⟩ = some (.slice (some ⟨gA, 0, none⟩) ts.length cA) ∧ w'.cell? ⟨gA, y, none⟩ = some (.int .i64 py)) (first | (go_keep; done) | (have hkp := keep_swap (x := x) c0 kA HK4.out.wA hyL HPY.out; exact hkp)) (fail)
      have HK5 : Hid (TK w (v6.setCell ⟨gA, x, none⟩ (.int .i64 py)).drew gp gA gS cA cS ts.length T ts (L.set x py) (shared ts L)) := (HK4.out.setA x py).drewN 1
      generalize (v6.setCell ⟨gA, x, none⟩ (.int .i64 py)).drew = u1 at HK5 ⊢
      clear HK4 c0 p0 p1 f0
      have c0 := HK5.out.at0
      have p0 := HK5.out.wA.cell (i := y) (by have := HLl.out; simp; omega)
      have f0 := HK5.out.wA.frozen y
      have HK6 := Hid.mk' (HK5.out.setA y px)
      have HSW : Hid (Told ts ((L.set x py).set y px) ↔ ((x : Int) == (y : Int)) = true) := by
        rw [Hid, told_iff HSC.out HOr.out, ← HPX.out, ← HPY.out, swap_iff (OrdTo.nodup HOr.out) (by have := HLl.out; omega) (by have := HLl.out; omega), beq_iff_eq]
        omega
      have HBK : Hid (((((L.set x py).set y px).set y (((L.set x py).set y px).getD x 0)).set x px) = L) := by
        rw [Hid, ← HPX.out, ← HPY.out]; exact swap_back (by have := HLl.out; omega) (by have := HLl.out; omega)
      go_wp2_with fail
      refine (checkOrder_is _ _ _ _ _ _ ts ((L.set x py).set y px) _ HK6.out.rd HK6.out.wA.rd (by omega) (by have := HLl.out; simp; omega) hTc rfl (by simpa using HLl.out) _ HSW.out).mono ?_
      rintro e u2 ⟨rfl, q7, hu2⟩
      have HK7 : Hid (TK w u2 gp gA gS cA cS ts.length T ts ((L.set x py).set y px) (shared ts L)) := by rw [Hid, hu2]; exact HK6.out.drewN q7
      clear hu2 HK5 HK6 c0 p0 f0 HSW
      obtain ⟨pz, hpz⟩ : ∃ pz, ((L.set x py).set y px).getD x 0 = pz := ⟨_, rfl⟩
      have c0 := HK7.out.at0
      have p0 := HK7.out.wA.cell (i := y) (by have := HLl.out; simp; omega)
      have p1 := HK7.out.wA.cell (i := x) (by have := HLl.out; simp; omega)
      have f0 := HK7.out.wA.frozen y
      rw [hpz] at p1
      rw [Hid, hpz] at HBK
      have HPZ := Hid.mk' hpz
      have hxL2 : x < ((L.set x py).set y px).length := by simpa using hxL
      clear hpz
      go_wp2
      go_region_held3 (fun w' => w'.cell? ⟨gp, 0, none⟩ = some (.slice (some ⟨gA, 0, none⟩) ts.length cA) ∧ w'.cell? ⟨gA, x, none⟩ = some (.int .i64 pz)) (first | (go_keep; done) | (have hkp := keep_swap (x := y) c0 kA HK7.out.wA hxL2 HPZ.out; exact hkp)) (fail)
      have HK8 : Hid (TK w (u2.setCell ⟨gA, y, none⟩ (.int .i64 pz)).drew gp gA gS cA cS ts.length T ts (((L.set x py).set y px).set y pz) (shared ts L)) := (HK7.out.setA y pz).drewN 1
      generalize (u2.setCell ⟨gA, y, none⟩ (.int .i64 pz)).drew = u3 at HK8 ⊢
      clear HK7 c0 p0 p1 f0
      have c0 := HK8.out.at0
      have p0 := HK8.out.wA.cell (i := x) (by have := HLl.out; simp; omega)
      have f0 := HK8.out.wA.frozen x
      have HK9 := Hid.mk' (HK8.out.setA x px)
      have c2 := HK9.out.at0
      have p2 := HK9.out.wA.cell (i := x) (by have := HLl.out; simp; omega)
      have f2 := HK9.out.wA.frozen x
      have HKA := HK9.out.setA x a4
      rw [HBK] at HKA
      have HK10 := Hid.mk' HKA
      clear HKA HBK HK9
      have HSV : Hid (Told ts (L.set x a4) ↔ (a4 == px) = true) := by
        rw [Hid, told_iff HSC.out HOr.out, set_iff (by have := HLl.out; omega), HPX.out, beq_iff_eq]
      go_wp2_with fail
      refine (checkOrder_is _ _ _ _ _ _ ts (L.set x a4) _ HK10.out.rd HK10.out.wA.rd (by omega) (by have := HLl.out; simp; omega) hTc rfl (by simpa using HLl.out) _ HSV.out).mono ?_
      rintro e u4 ⟨rfl, q11, hu4⟩
      have HBE : Hid (Below w.heap.size w u4) := by rw [Hid, hu4]; exact below_drewN HK10.out.bel q11
      clear hu4 HK10 HK8 c0 p0 f0 c2 p2 f2
      go_wp2
      go_ret
      exact ⟨ret_bool (by simp), HBE.out⟩
    · have hvb : (a4 != s) = true := by simp [hv]
      have HV := Hid.mk' hv
      clear hv
      have fS := HK4.out.wS.frozen x
      have HKb := Hid.mk' (HK4.out.setS x a4)
      have HF : Hid ((Told ts L ∧ shared ts L = (shared ts L).set x a4) ↔ false = true) := by
        refine ⟨fun h => ?_, fun h => by cases h⟩
        exact absurd ((set_iff (by have := HSl.out; omega) a4).1 h.2.symm) (by rw [HSE.out]; exact HV.out)
      go_wp2
      generalize v6.setCell ⟨gS, x, none⟩ (.int .i64 a4) = u0 at HKb ⊢
      clear HK4 c0 c1 hs p0 p1 f0 fS
      have c0 := HKb.out.at0
      have c1 := HKb.out.at1
      go_region_held3 (fun w' => w'.cell? ⟨gp, 0, none⟩ = some (.slice (some ⟨gA, 0, none⟩) ts.length cA) ∧ w'.cell? ⟨gp, 1, none⟩ = some (.slice (some ⟨gS, 0, none⟩) ts.length cS)) (go_keep) ((go_at_call 16; refine (checkShared_is _ _ _ _ _ _ _ _ _ ts L ((shared ts L).set x a4) _ (HKb.out.drewN _).rd (HKb.out.drewN _).wA.rd (HKb.out.drewN _).wS.rd (by omega) (by have := HLl.out; omega) (by have := HSl.out; simp; omega) hTc rfl HLl.out (by simpa using HSl.out) false HF.out).mono ?_; rintro e v8 ⟨rfl, hb8⟩; have HK8b := Hid.mk' ((HKb.out.drewN _).next hb8); have hk0 := HK8b.out.at0; have hk1 := HK8b.out.at1))
      clear hk0 hk1 c0 c1 HKb hb8 HF
      have cS1 := HK8b.out.at1
      have hsx := HK8b.out.wS.cell (i := x) (by have := HSl.out; simp; omega)
      have fS := HK8b.out.wS.frozen x
      have HK9b : Hid (TK w (v8.setCell ⟨gS, x, none⟩ (.int .i64 s)) gp gA gS cA cS ts.length T ts L (shared ts L)) := by
        have h := HK8b.out.setS x s
        rw [List.set_set, (set_iff (by have := HSl.out; omega) s).2 HSE.out.symm] at h
        exact h
      have c0 := HK9b.out.at0
      have p0 := HK9b.out.wA.cell (i := x) (by have := HLl.out; omega)
      have p1 := HK9b.out.wA.cell (i := y) (by have := HLl.out; omega)
      have f0 := HK9b.out.wA.frozen x
      rw [HPX.out] at p0
      rw [HPY.out] at p1
      have kA := HK9b.out.ne.1
      go_wp2
      go_region_held3 (fun w' => w'.cell? ⟨gp, 0, none⟩ = some (.slice (some ⟨gA, 0, none⟩) ts.length cA) ∧ w'.cell? ⟨gA, y, none⟩ = some (.int .i64 py)) (first | (go_keep; done) | (have hkp := keep_swap (x := x) c0 kA HK9b.out.wA hyL HPY.out; exact hkp)) (fail)
      have HK5 : Hid (TK w ((v8.setCell ⟨gS, x, none⟩ (.int .i64 s)).setCell ⟨gA, x, none⟩ (.int .i64 py)).drew gp gA gS cA cS ts.length T ts (L.set x py) (shared ts L)) := (HK9b.out.setA x py).drewN 1
      generalize ((v8.setCell ⟨gS, x, none⟩ (.int .i64 s)).setCell ⟨gA, x, none⟩ (.int .i64 py)).drew = u1 at HK5 ⊢
      clear HK9b c0 p0 p1 f0
      have c0 := HK5.out.at0
      have p0 := HK5.out.wA.cell (i := y) (by have := HLl.out; simp; omega)
      have f0 := HK5.out.wA.frozen y
      have HK6 := Hid.mk' (HK5.out.setA y px)
      have HSW : Hid (Told ts ((L.set x py).set y px) ↔ ((x : Int) == (y : Int)) = true) := by
        rw [Hid, told_iff HSC.out HOr.out, ← HPX.out, ← HPY.out, swap_iff (OrdTo.nodup HOr.out) (by have := HLl.out; omega) (by have := HLl.out; omega), beq_iff_eq]
        omega
      have HBK : Hid (((((L.set x py).set y px).set y (((L.set x py).set y px).getD x 0)).set x px) = L) := by
        rw [Hid, ← HPX.out, ← HPY.out]; exact swap_back (by have := HLl.out; omega) (by have := HLl.out; omega)
      go_wp2_with fail
      refine (checkOrder_is _ _ _ _ _ _ ts ((L.set x py).set y px) _ HK6.out.rd HK6.out.wA.rd (by omega) (by have := HLl.out; simp; omega) hTc rfl (by simpa using HLl.out) _ HSW.out).mono ?_
      rintro e u2 ⟨rfl, q7, hu2⟩
      have HK7 : Hid (TK w u2 gp gA gS cA cS ts.length T ts ((L.set x py).set y px) (shared ts L)) := by rw [Hid, hu2]; exact HK6.out.drewN q7
      clear hu2 HK5 HK6 c0 p0 f0 HSW
      obtain ⟨pz, hpz⟩ : ∃ pz, ((L.set x py).set y px).getD x 0 = pz := ⟨_, rfl⟩
      have c0 := HK7.out.at0
      have p0 := HK7.out.wA.cell (i := y) (by have := HLl.out; simp; omega)
      have p1 := HK7.out.wA.cell (i := x) (by have := HLl.out; simp; omega)
      have f0 := HK7.out.wA.frozen y
      rw [hpz] at p1
      rw [Hid, hpz] at HBK
      have HPZ := Hid.mk' hpz
      have hxL2 : x < ((L.set x py).set y px).length := by simpa using hxL
      clear hpz
      go_wp2
      go_region_held3 (fun w' => w'.cell? ⟨gp, 0, none⟩ = some (.slice (some ⟨gA, 0, none⟩) ts.length cA) ∧ w'.cell? ⟨gA, x, none⟩ = some (.int .i64 pz)) (first | (go_keep; done) | (have hkp := keep_swap (x := y) c0 kA HK7.out.wA hxL2 HPZ.out; exact hkp)) (fail)
      have HK8 : Hid (TK w (u2.setCell ⟨gA, y, none⟩ (.int .i64 pz)).drew gp gA gS cA cS ts.length T ts (((L.set x py).set y px).set y pz) (shared ts L)) := (HK7.out.setA y pz).drewN 1
      generalize (u2.setCell ⟨gA, y, none⟩ (.int .i64 pz)).drew = u3 at HK8 ⊢
      clear HK7 c0 p0 p1 f0
      have c0 := HK8.out.at0
      have p0 := HK8.out.wA.cell (i := x) (by have := HLl.out; simp; omega)
      have f0 := HK8.out.wA.frozen x
      have HK9 := Hid.mk' (HK8.out.setA x px)
      have c2 := HK9.out.at0
      have p2 := HK9.out.wA.cell (i := x) (by have := HLl.out; simp; omega)
      have f2 := HK9.out.wA.frozen x
      have HKA := HK9.out.setA x a4
      rw [HBK] at HKA
      have HK10 := Hid.mk' HKA
      clear HKA HBK HK9
      have HSV : Hid (Told ts (L.set x a4) ↔ (a4 == px) = true) := by
        rw [Hid, told_iff HSC.out HOr.out, set_iff (by have := HLl.out; omega), HPX.out, beq_iff_eq]
      go_wp2_with fail
      refine (checkOrder_is _ _ _ _ _ _ ts (L.set x a4) _ HK10.out.rd HK10.out.wA.rd (by omega) (by have := HLl.out; simp; omega) hTc rfl (by simpa using HLl.out) _ HSV.out).mono ?_
      rintro e u4 ⟨rfl, q11, hu4⟩
      have HBE : Hid (Below w.heap.size w u4) := by rw [Hid, hu4]; exact below_drewN HK10.out.bel q11
      clear hu4 HK10 HK8 c0 p0 f0 c2 p2 f2
      go_wp2
      go_ret
      exact ⟨ret_bool (by simp), HBE.out⟩


set_option maxRecDepth 100000 in
theorem lifted (os : Os) (started : os.Started) (H : Type) (enc : TypeId × Value → H) :
    ReturnsInHanded {} Try.checked os 5 .any (Rows.toldSpec.pre6 enc Try.prog Try.f5 Rows.toldRow.domain false) (Rows.toldSpec.post enc Try.prog Try.f5 false true false false) := by
  refine returnsInHanded_of_change (C := Try.checked) own started (by kernel_rfl) Try.func5
    (ChangeSpec.witness6 (enc := enc) (C := Try.checked) false ⟨#[], #[.slice none 0 0, .int .i64 0, .int .i64 0, .int .i64 0, .int .i64 0], []⟩ 8 (by kernel_rfl) (by kernel_rfl) (by kernel_rfl) (by kernel_rfl)) ?_
  intro W base args ds gs before hval0 hW hcnd _
  have hval : ∀ (j : Nat) t v, Try.f5.params[j]? = some t → args[j]? = some v → Value.okWide Try.prog W .any base t v := hval0
  have hW' := hW
  obtain ⟨p, q, hA0, hV, rfl, hfz, hnd⟩ := hW
  have hA : DataW.TrodAll enc Try.prog W 0 (fun _ => true) true Try.f5.params.toList args.toList ds p := hA0
  rw [Try.params5] at hA hval
  obtain ⟨v0, vs0, d0, ds0, p0, q0, hargs, rfl, rfl, h0, r0⟩ := trodAll_cons hA
  obtain ⟨v1, vs1, d1, ds1, p1, q1, rfl, rfl, rfl, h1, r1⟩ := trodAll_cons r0
  obtain ⟨v2, vs2, d2, ds2, p2, q2, rfl, rfl, rfl, h2, r2⟩ := trodAll_cons r1
  obtain ⟨v3, vs3, d3, ds3, p3, q3, rfl, rfl, rfl, h3, r3⟩ := trodAll_cons r2
  obtain ⟨v4, vs4, d4, ds4, p4, q4, rfl, rfl, rfl, h4, r4⟩ := trodAll_cons r3
  obtain ⟨rfl, rfl, rfl⟩ := trodAll_nil r4
  obtain rfl : args = #[v0, v1, v2, v3, v4] := by cases args; simp_all
  obtain ⟨rfl, rfl⟩ := trodVars_none hV
  obtain ⟨a0, len0, cap0, rfl⟩ := okWide_slice Try.underlying22 (hval 0 22 v0 rfl rfl)
  have k0 := h0
  have lt0 : ∀ x ∈ p0, x.block < W.heap.size := by obtain ⟨m, hm⟩ := k0; exact DataW.trod_lt m _ _ _ hm
  obtain ⟨z0, w0⟩ : ∃ zs, IsRow .i64 W a0 len0 cap0 zs := by
    obtain ⟨fuel, hf⟩ := h0
    rcases open_ints Try.underlying22 Try.underlying3 (by kernel_rfl) hf with ⟨hcs, _⟩ | ⟨x, l, c, zs, hcs, _, hl, hm, hz, _, hcell, hwz⟩
    · simp [Value.cells] at hcs
      obtain ⟨rfl, rfl, rfl⟩ := hcs
      exact ⟨[], .inl ⟨rfl, rfl, rfl, rfl⟩⟩
    · simp [Value.cells] at hcs
      obtain ⟨rfl, rfl, rfl⟩ := hcs
      exact ⟨zs, .inr ⟨_, rfl, hl, hm, by simpa using hz, hcell, hwz⟩⟩
  obtain ⟨a1, rfl, rfl, rfl, w1⟩ := open_int Try.underlying3 (hval 1 3 v1 rfl rfl) h1
  obtain ⟨a2, rfl, rfl, rfl, w2⟩ := open_int Try.underlying3 (hval 2 3 v2 rfl rfl) h2
  obtain ⟨a3, rfl, rfl, rfl, w3⟩ := open_int Try.underlying3 (hval 3 3 v3 rfl rfl) h3
  obtain ⟨a4, rfl, rfl, rfl, w4⟩ := open_int Try.underlying3 (hval 4 3 v4 rfl rfl) h4
  clear hA0 hval0
  refine (walk a0 len0 cap0 z0 a1 a2 a3 a4 W w0 w1 w2 w3 w4).mono fun e W' ⟨he, bel⟩ => ?_
  subst he
  exact ⟨_, rfl, _, _, _, [], _, [], hW', trodAll_mk1 (shut_bool Try.underlying4 _), (trodAll_cons_mk (Below.trod laidOut (by kernel_rfl) (of_decide_eq_true (by kernel_rfl)) k0 bel lt0) (trodAll_cons_mk (shut_int Try.underlying3 w1) (trodAll_cons_mk (shut_int Try.underlying3 w2) (trodAll_cons_mk (shut_int Try.underlying3 w3) (trodAll_cons_mk (shut_int Try.underlying3 w4) trodAll_mk0))))), rfl, bel.frame _, fun h => by cases h⟩

theorem over : Rows.toldRow.holds Try.pinned (OpenSpec.ofChange Rows.toldSpec) :=
  OpenClaim.holds_of_wide 5 Try.f5 rfl rfl rfl rfl rfl rfl rfl ⟨rfl, rfl, rfl, rfl, rfl⟩ rfl rfl rfl rfl rfl (by kernel_rfl) Try.func5 (by kernel_rfl)
    (of_decide_eq_true (by kernel_rfl)) (by unfold Func.isWrapper; first | (rw [if_pos (by decide +kernel)]; kernel_rfl) | (rw [if_neg (by decide +kernel)]; exact ⟨rfl, rfl⟩))
    (fun os started H enc _ => lifted os started H enc)


theorem proved : Rows.ToldSaid := over
end Go.Proofs.Ytdhehffdddbmbab.told

namespace Go.Proofs.Ytdhehffdddbmbab
theorem told_holds : Rows.ToldSaid := told.proved
#print axioms told_holds
end Go.Proofs.Ytdhehffdddbmbab
