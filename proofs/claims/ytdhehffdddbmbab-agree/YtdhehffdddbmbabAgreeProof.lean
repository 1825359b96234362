import Derived.Test.YtdhehffdddbmbabLaw
import Derived.Test.YtdhehffdddbmbabKeepAgree
import Derived.Test.YtdhehffdddbmbabBuild
import Derived.Test.YtdhehffdddbmbabRows
import Derived.WalkKit
import Derived.ProofKit
import Derived.OpenShut
import Derived.ShutString
import Derived.ChangeOld
import Derived.Below
namespace Go.Proofs.Ytdhehffdddbmbab.agree
open Go.ChangeShapes Go.WideShapes Go.ChangeAt Go.RowKit
open Go.Proofs.Ytdhehffdddbmbab
open Go.ChangeMaps (open_string shut_string)
set_option linter.unusedVariables false

theorem own : ownKnob Try.prog.godebug = none := by kernel_rfl
theorem laidOut : laidOutB Try.prog = true := by kernel_rfl


def IsRow (k : IntKind) (w : World) (a : Option Addr) (len cap : Nat) (zs : List Int) : Prop :=
  (a = none ∧ len = 0 ∧ cap = 0 ∧ zs = []) ∨
  ∃ x, a = some x ∧ len ≤ cap ∧ cap ≤ maxLen ∧ zs.length = cap ∧ (∀ i, i < zs.length → w.cell? (x.add i) = some (.int k (zs.getD i 0))) ∧ ∀ n ∈ zs, (Lit.int k n).wf = true


set_option maxHeartbeats 8000000 in
set_option maxRecDepth 100000 in
theorem walk (a0 : Option Addr) (len0 cap0 : Nat) (z0 : List Int) (a1 : Int) (a2 : Int) (w : World) (w0 : IsRow .i64 w a0 len0 cap0 z0) (w1 : (Lit.int .i64 a1).wf = true) (w2 : (Lit.int .i64 a2).wf = true) :
    Calls Try.prog 4 #[.slice a0 len0 cap0, .int .i64 a1, .int .i64 a2] w fun e w' => e = .returned (.bool true) ∧ Below w.heap.size w w' := by
  obtain ⟨xs, rfl, hr, hl, hx⟩ := rd_of_row w0
  obtain ⟨i0, hi, hz0, hz1, hz2⟩ := info_parts Try.info3
  have HG := Hid.mk' (wf_range w1)
  have HH := Hid.mk' (wf_range w2)
  have HSC := Hid.mk' (someOf_scan xs)
  have htl := someOf_le xs
  have hgg := pk_lt a1 (n := 1000) (by omega)
  have haa := pk_lt a2 (n := 60) (by omega)
  have HP1 := Hid.mk' (fun W => pick_any a1 1000 W HG.out (by omega) (by omega))
  have HP2 := Hid.mk' (fun W => pick_any a2 60 W HH.out (by omega) (by omega))
  clear HG HH
  go_enter Try.func4, Try.ntmps4
  go_wp2_with fail
  refine (some_any _ _ xs _ hr hl hx).mono ?_
  rintro e v1 ⟨r, rfl, hown1, hb1⟩
  generalize someOf xs = ts at HSC htl hown1 ⊢
  obtain ⟨T, cT, rfl, hrT, -, hTc, hTm⟩ := owns_slice hown1
  clear hown1
  go_wp2_with fail
  refine (kbuilt_any buildAnys _ _ ts 0 0 _ hrT hTc hTm HSC.out (by omega) (by omega)).mono ?_
  rintro e v2 ⟨gp, vo, vs, L, zw, rfl, hA⟩
  obtain ⟨A, cA, rfl, hrA, hAl, -, -⟩ := owns_slice hA.own
  obtain ⟨S, cS, rfl, hrS, hSl, -, -⟩ := owns_slice hA.own'
  have hrT2 := hrT.below hA.below
  have hb02 : Below w.heap.size w v2 := hb1.trans (hA.below.mono hb1.size)
  have HOr := Hid.mk' hA.ord
  have HAl := Hid.mk' hAl
  have HSl := Hid.mk' hSl
  have HC := Hid.mk' (And.intro hA.at0 (And.intro hA.at1 hA.ptr.2))
  have HR := Hid.mk' (scan_zero HSC.out)
  clear hA hAl hSl hrT
  generalize pk a1 1000 = gg at hgg HP1
  generalize pk a2 60 = aa at haa HP2
  go_wp2_with (at_make; refine wpList_make_full _ rfl _ _ 22 rfl v2.heap.size 3 i0 (.int .i64 0) 1 Try.underlying22 hi hz0 hz1 _ _ _ _ ts.length rfl rfl (by omega) (by omega) ?b2 ?b3 (Nat.le_refl _) ?_)
  case b2 => rw [hz2]; omega
  case b3 => unfold maxLen; omega
  intro v3 hown0 hgrow0
  obtain ⟨ho, hb3, hs3⟩ := made_row hown0 hgrow0
  clear hown0 hgrow0
  go_wp2
  go_loopw [11] (fun i wr => ∃ (n : Nat) (ds : List Int), n ≤ ts.length ∧ i = .int .i64 n ∧ Hid (Cnt (fun k => far gg aa (ts.getD k 0)) ts.length ds n 0) ∧ Hid (Own wr v2.heap.size ds) ∧ Hid (Below v2.heap.size v2 wr)) (fun i _ => ts.length - (intOf i).toNat)
  case atStart => exact ⟨0, _, Nat.zero_le _, rfl, Cnt.start _ _, ho, hb3⟩
  case round =>
    clear ho hb3 hs3
    obtain ⟨n, ds, hn, rfl, HCn, HO, HB⟩ := hrel
    have hrT3 := hrT2.below HB.out
    by_cases hlt : n < ts.length
    · have hx0 := HR.out.2.1 ts[n] (List.getElem_mem hlt)
      have hx1 := HR.out.2.2 ts[n] (List.getElem_mem hlt)
      obtain ⟨p, hp⟩ : ∃ p : Nat, ts.getD n 0 = p := ⟨ts[n].toNat, by simp [List.getD, hlt]; omega⟩
      have hp60 : p < 60 := by simp [List.getD, hlt] at hp; omega
      obtain ⟨bT, oT, rfl, hbT, hcT⟩ := hrT3.at hlt
      have hct := hcT n hlt
      rw [hp] at hct
      have hneT : bT ≠ v2.heap.size := rd_ne hrT2 (by omega) rfl rfl
      have hneT' : v2.heap.size ≠ bT := hneT.symm
      obtain ⟨m, hm⟩ : ∃ m : Nat, (p : Int) * (1 + (gg : Int)) = m := ⟨p * (1 + gg), by push_cast; rfl⟩
      have hm2 : m ≤ 60 * 1000 := by
        have : (p : Int) * (1 + (gg : Int)) ≤ 60 * 1000 := Int.mul_le_mul (by omega) (by omega) (by omega) (by omega)
        omega
      have hwr : IntKind.i64.wrap ((p : Int) * (1 + (gg : Int))) = (m : Int) := by rw [hm]; exact i64_wrap_small (by omega) (by omega)
      have hlen : n < ds.length := by have := HCn.out.1; omega
      obtain ⟨u, hcell⟩ : ∃ u, wr.cell? ⟨v2.heap.size, n, none⟩ = some u := ⟨_, HO.out.cell hlen⟩
      have hfz := HO.out.frozen n
      have z3 : (0 : Int) ≤ (n : Int) := by omega
      have z4 : (n : Int) < (ts.length : Int) := by omega
      have HS1 : Hid (far gg aa (ts.getD n 0) = (m : Int) + if (aa : Int) ≤ (p : Int) then 2305843009213693952 else 0) := by unfold far Hid; rw [hp, hm]
      have hwr1 : IntKind.i64.wrap (1 + (gg : Int)) = 1 + (gg : Int) := i64_wrap_small (by omega) (by omega)
      clear hx0 hx1 hp hcT hm
      go_wp2
      go_region_held3 (fun w' => w'.cell? ⟨bT, oT + n, none⟩ = some (.int .i64 p)) (go_keep) ((go_at_call 12; refine (HP1.out _).mono ?_; rintro e w' ⟨rfl, rfl⟩))
      clear hwr hwr1 hfz hcell
      have ho4 : Own (wr.setCell ⟨v2.heap.size, n, none⟩ (.int .i64 (m : Int))).drew v2.heap.size (ds.set n (m : Int)) := HO.out.set n _
      have hb4 : Below v2.heap.size v2 (wr.setCell ⟨v2.heap.size, n, none⟩ (.int .i64 (m : Int))).drew := (HB.out.setCell (Nat.le_refl _) _).drew
      have ct4 : (wr.setCell ⟨v2.heap.size, n, none⟩ (.int .i64 (m : Int))).drew.cell? ⟨bT, oT + n, none⟩ = some (.int .i64 p) := (cell_set _ hneT).trans hct
      generalize (wr.setCell ⟨v2.heap.size, n, none⟩ (.int .i64 (m : Int))).drew = v4 at ho4 hb4 ct4 ⊢
      have HC4 := Hid.mk' (HCn.out.set (m : Int))
      have hcu := ho4.cell (i := n) (by simpa using hlen)
      rw [HC4.out.at hlt] at hcu
      have hfz4 := ho4.frozen n
      clear hct HCn HO HB hrT3
      by_cases hap : aa ≤ p
      · have HS2 : Hid ((m : Int) + 2305843009213693952 = far gg aa (ts.getD n 0)) := by rw [Hid, HS1.out, if_pos (by omega)]
        have hap2 : decide ((aa : Int) ≤ (p : Int)) = true := decide_eq_true (by omega)
        clear HS1
        go_wp2
        go_quiet ((go_at_call 12; exact Calls.quiet_of_same (HP2.out _)))
        go_wp2
        go_roundw
        case rel => exact ⟨n + 1, _, by omega, by go_num, (HC4.out.set _).next HS2.out, (ho4.drewN _).set n _, (below_drewN hb4 _).setCell (Nat.le_refl _) _⟩
        case measure => simp [intOf]; omega
      · have HS2 : Hid ((m : Int) = far gg aa (ts.getD n 0)) := by rw [Hid, HS1.out, if_neg (by omega), Int.add_zero]
        have hap2 : decide ((aa : Int) ≤ (p : Int)) = false := decide_eq_false (by omega)
        clear HS1
        go_wp2
        go_quiet ((go_at_call 12; exact Calls.quiet_of_same (HP2.out _)))
        go_wp2
        go_roundw
        case rel => exact ⟨n + 1, _, by omega, by go_num, HC4.out.next HS2.out, ho4.drewN _, below_drewN hb4 _⟩
        case measure => simp [intOf]; omega
    · have hds := far_list HCn.out (by omega)
      have HO5 : Hid (Own wr v2.heap.size (ts.map (far gg aa))) := by rw [Hid, ← hds]; exact HO.out
      clear hds HCn HO hrT3
      go_wp2
      go_loopw [12] (fun y wr => ∃ n : Nat, n ≤ 3 ∧ y = .int .i64 n ∧ Hid (Own wr v2.heap.size (ts.map (far gg aa))) ∧ Hid (Below v2.heap.size v2 wr)) (fun y _ => 3 - (intOf y).toNat)
      case atStart => exact ⟨0, by omega, rfl, HO5, HB⟩
      case round =>
        clear HO5 HB
        obtain ⟨y, hy, rfl, HO5, HB⟩ := hrel
        by_cases hn3 : y < 3
        · have hd3 : decide ((y : Int) < 3) = true := decide_eq_true (by omega)
          go_wp2
          go_loopw [13] (fun z wr => ∃ m : Nat, m ≤ 2 ∧ z = .int .i64 m ∧ Hid (Own wr v2.heap.size (ts.map (far gg aa))) ∧ Hid (Below v2.heap.size v2 wr)) (fun z _ => 2 - (intOf z).toNat)
          case atStart => exact ⟨0, by omega, rfl, HO5, HB⟩
          case round =>
            clear HO5 HB
            obtain ⟨m, hm, rfl, HO5, HB⟩ := hrel
            by_cases hm2 : m < 2
            · go_wp2_with fail
              refine (far_build buildAnys hgg HSC.out HOr.out y m hn3 hm2 _ _ _ HO5.out).mono ?_
              rintro e u1 ⟨gq, A', cA', S', cS', rfl, q0, q1, hgq, hrA', hrS', hb1'⟩
              have HB1 : Hid (Below v2.heap.size v2 u1) := HB.out.trans (hb1'.mono HB.out.size)
              have HO1 : Hid (Own u1 v2.heap.size (ts.map (far gg aa))) := HO5.out.below hb1' HO5.out.lt
              have hc0 := (HB1.out.cell (p := ⟨gp, 0, none⟩) HC.out.2.2).trans HC.out.1
              have hc1 := (HB1.out.cell (p := ⟨gp, 1, none⟩) HC.out.2.2).trans HC.out.2.1
              have hrA1 := hrA.below HB1.out
              have hrS1 := hrS.below HB1.out
              have HI1 := Hid.mk' (fun q => ksame_len A' A ts.length ts.length cA' cA L (u1.drewN q) hrA' hrA1 (by rw [HAl.out]; unfold maxLen; omega) HAl.out HAl.out)
              have HI2 := Hid.mk' (fun q => ksame_len S' S ts.length ts.length cS' cS (shared ts L) (u1.drewN q) hrS' hrS1 (by rw [HSl.out]; unfold maxLen; omega) HSl.out HSl.out)
              clear HO5 HB hb1' hrA' hrA1 hrS' hrS1
              go_wp2
              go_quiet ((go_at_call 14; exact Calls.quiet_of (HI1.out _)))
              generalize hu2 : u1.drewN _ = u2
              have j1 : u2.cell? ⟨gp, 1, none⟩ = some (.slice S ts.length cS) := by rw [← hu2]; exact hc1
              have j2 : u2.cell? ⟨gq, 1, none⟩ = some (.slice S' ts.length cS') := by rw [← hu2]; exact q1
              have HB2 : Hid (Below v2.heap.size v2 u2) := by rw [Hid, ← hu2]; exact below_drewN HB1.out _
              have HO2 : Hid (Own u2 v2.heap.size (ts.map (far gg aa))) := by rw [Hid, ← hu2]; exact HO1.out.drewN _
              have HI3 : Hid (∀ q, Calls Try.prog 14 #[.slice S' ts.length cS', .slice S ts.length cS] (u2.drewN q) fun e w' => e = .returned (.bool true) ∧ ∃ q', w' = (u2.drewN q).drewN q') := by
                intro q
                have h := HI2.out
                rw [← hu2, World.drewN_drewN]
                exact h _
              clear hu2 hc0 hc1 q0 q1 HI1 HI2 HB1 HO1
              go_wp2
              go_quiet ((go_at_call 14; exact Calls.quiet_of (HI3.out _)))
              go_wp2
              go_roundw
              case rel => exact ⟨m + 1, by omega, by go_num, HO2.out.drewN _, below_drewN HB2.out _⟩
              case measure => simp [intOf]; omega
            · obtain rfl : m = 2 := by omega
              go_wp2
              go_roundw
              case rel => exact ⟨y + 1, by omega, by go_num, HO5, HB⟩
              case measure => simp [intOf]; omega
        · obtain rfl : y = 3 := by omega
          go_wp2
          go_ret
          exact ⟨rfl, hb02.trans (HB.out.mono hb02.size)⟩


set_option maxRecDepth 100000 in
theorem lifted (os : Os) (started : os.Started) (H : Type) (enc : TypeId × Value → H) :
    ReturnsInHanded {} Try.checked os 4 .any (Rows.agreeSpec.pre6 enc Try.prog Try.f4 Rows.agreeRow.domain false) (Rows.agreeSpec.post enc Try.prog Try.f4 false true false false) := by
  refine returnsInHanded_of_change (C := Try.checked) own started (by kernel_rfl) Try.func4
    (ChangeSpec.witness6 (enc := enc) (C := Try.checked) false ⟨#[], #[.slice none 0 0, .int .i64 0, .int .i64 0], []⟩ 8 (by kernel_rfl) (by kernel_rfl) (by kernel_rfl) (by kernel_rfl)) ?_
  intro W base args ds gs before hval0 hW hcnd _
  have hval : ∀ (j : Nat) t v, Try.f4.params[j]? = some t → args[j]? = some v → Value.okWide Try.prog W .any base t v := hval0
  have hW' := hW
  obtain ⟨p, q, hA0, hV, rfl, hfz, hnd⟩ := hW
  have hA : DataW.TrodAll enc Try.prog W 0 (fun _ => true) true Try.f4.params.toList args.toList ds p := hA0
  rw [Try.params4] at hA hval
  obtain ⟨v0, vs0, d0, ds0, p0, q0, hargs, rfl, rfl, h0, r0⟩ := trodAll_cons hA
  obtain ⟨v1, vs1, d1, ds1, p1, q1, rfl, rfl, rfl, h1, r1⟩ := trodAll_cons r0
  obtain ⟨v2, vs2, d2, ds2, p2, q2, rfl, rfl, rfl, h2, r2⟩ := trodAll_cons r1
  obtain ⟨rfl, rfl, rfl⟩ := trodAll_nil r2
  obtain rfl : args = #[v0, v1, v2] := by cases args; simp_all
  obtain ⟨rfl, rfl⟩ := trodVars_none hV
  obtain ⟨a0, len0, cap0, rfl⟩ := okWide_slice Try.underlying22 (hval 0 22 v0 rfl rfl)
  have k0 := h0
  have lt0 : ∀ x ∈ p0, x.block < W.heap.size := by obtain ⟨m, hm⟩ := k0; exact DataW.trod_lt m _ _ _ hm
  obtain ⟨z0, w0⟩ : ∃ zs, IsRow .i64 W a0 len0 cap0 zs := by
    obtain ⟨fuel, hf⟩ := h0
    rcases open_ints Try.underlying22 Try.underlying3 (by kernel_rfl) hf with ⟨hcs, _⟩ | ⟨x, l, c, zs, hcs, _, hl, hm, hz, _, hcell, hwz⟩
    · simp [Value.cells] at hcs
      obtain ⟨rfl, rfl, rfl⟩ := hcs
      exact ⟨[], .inl ⟨rfl, rfl, rfl, rfl⟩⟩
    · simp [Value.cells] at hcs
      obtain ⟨rfl, rfl, rfl⟩ := hcs
      exact ⟨zs, .inr ⟨_, rfl, hl, hm, by simpa using hz, hcell, hwz⟩⟩
  obtain ⟨a1, rfl, rfl, rfl, w1⟩ := open_int Try.underlying3 (hval 1 3 v1 rfl rfl) h1
  obtain ⟨a2, rfl, rfl, rfl, w2⟩ := open_int Try.underlying3 (hval 2 3 v2 rfl rfl) h2
  clear hA0 hval0
  refine (walk a0 len0 cap0 z0 a1 a2 W w0 w1 w2).mono fun e W' ⟨he, bel⟩ => ?_
  subst he
  exact ⟨_, rfl, _, _, _, [], _, [], hW', trodAll_mk1 (shut_bool Try.underlying4 _), (trodAll_cons_mk (Below.trod laidOut (by kernel_rfl) (of_decide_eq_true (by kernel_rfl)) k0 bel lt0) (trodAll_cons_mk (shut_int Try.underlying3 w1) (trodAll_cons_mk (shut_int Try.underlying3 w2) trodAll_mk0))), rfl, bel.frame _, fun h => by cases h⟩

theorem over : Rows.agreeRow.holds Try.pinned (OpenSpec.ofChange Rows.agreeSpec) :=
  OpenClaim.holds_of_wide 4 Try.f4 rfl rfl rfl rfl rfl rfl rfl ⟨rfl, rfl, rfl, rfl, rfl⟩ rfl rfl rfl rfl rfl (by kernel_rfl) Try.func4 (by kernel_rfl)
    (of_decide_eq_true (by kernel_rfl)) (by unfold Func.isWrapper; first | (rw [if_pos (by decide +kernel)]; kernel_rfl) | (rw [if_neg (by decide +kernel)]; exact ⟨rfl, rfl⟩))
    (fun os started H enc _ => lifted os started H enc)


theorem proved : Rows.AgreeSaid := over
end Go.Proofs.Ytdhehffdddbmbab.agree

namespace Go.Proofs.Ytdhehffdddbmbab
theorem agree_holds : Rows.AgreeSaid := agree.proved
#print axioms agree_holds
end Go.Proofs.Ytdhehffdddbmbab
