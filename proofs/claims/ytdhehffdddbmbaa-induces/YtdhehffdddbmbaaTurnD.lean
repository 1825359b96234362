/-
  TurnD: P15: the walks of the program's drawnIn and Sort of the way by turns.
-/
import Derived.Test.YtdhehffdddbmbaaTurnC
namespace Go.Proofs.Ytdhehffdddbmbaa
open Go.RowKit

set_option maxHeartbeats 1600000 in
set_option maxRecDepth 100000 in
theorem tdrawnIn_any (a at' : Option Addr) (cap ct len : Nat) (xs L : List Int) (w : World) (hr : Rd w a xs) (ht : Rd w at' (oT xs L)) (hO : Ord xs L) (hl : xs.length ≤ 1073741822) (h0 : ∀ x ∈ xs, 0 ≤ x) (hct : (oT xs L).length ≤ ct) (hlen : (oT xs L).length = len) :
    Calls Try.prog 103 #[.slice a xs.length cap, .slice at' len ct] w fun e w' => ∃ g c, e = .returned (.slice (some ⟨g, 0, none⟩) xs.length c) ∧ w.heap.size ≤ g ∧ OwnC w' g c L ∧ Below w.heap.size w w' := by
  subst hlen
  have HOr := Hid.mk' hO
  have H0 := Hid.mk' h0
  have HBL := Hid.mk' (buckets_length xs)
  obtain ⟨hsz, hby⟩ := kinds_string xs
  have HST := Hid.mk' (And.intro hsz hby)
  have hk := kinds_le xs
  clear hO h0 hsz hby
  go_enter Try.func103, Try.ntmps103
  go_wp2_with fail
  refine (textsKinds_any a cap xs _ hr (by omega)).mono ?_
  rintro e w1 ⟨rfl, hb1⟩
  generalize strOfNums (kindsL xs) = s at HST
  have hr1 := hr.below hb1
  go_wp2_with fail
  refine (textsDense_any a cap xs _ hr1 (by omega) H0.out).mono ?_
  rintro e w2 ⟨gd, hgd, rfl, hod, hb2⟩
  have hr2 := hr1.below hb2
  have hltd := hod.lt
  have hb02 := hb1.trans (hb2.mono hb1.size)
  go_wp2_with fail
  refine (textsBuckets_any a cap xs _ hr2 (by omega) H0.out).mono ?_
  rintro e w3 ⟨gs, hgs, rfl, hos, hb3⟩
  rw [HBL.out]
  have hb03 := hb02.trans (hb3.mono hb02.size)
  have hs3 := hb03.size
  have hod3 := hod.below hb3 hltd
  have ht3 := ht.below hb03
  have HDF := Hid.mk' (fun o => layTurns_any s (some ⟨gd, 0, none⟩) at' xs.length ct gs (kinds xs + 1) xs L (w3.alloc o) HOr.out (hod3.alloc o).rd (ht3.below ((Below.refl _ _).alloc (Nat.le_refl _) _)) hl (Nat.le_refl _) hct)
  have HB3 := Hid.mk' (And.intro hod3 (And.intro hos hb03))
  clear hr1 hr2 hb1 hb2 hb3 hod hod3 hos ht3 hb03 hb02 hr ht
  go_wp2_with fail
  refine (HDF.out _).mono ?_
  rintro e w4 ⟨gf, fa, rfl, hgf, hof, hfa, hb4⟩
  have HFA := Hid.mk' hfa
  have hsz : ∀ o, (w3.alloc o).heap.size = w3.heap.size + 1 := fun o => by simp
  rw [hsz] at hgf hb4
  have hv4 := OwnV.below (owned_alloc w3 _ _) hb4 (Nat.lt_succ_self _)
  have hb34 := ((Below.refl w3.heap.size w3).alloc (Nat.le_refl _) _).trans (hb4.mono (Nat.le_succ _))
  have hf0 := hv4.cell (i := 0) (by simp)
  have hf1 := hv4.cell (i := 1) (by simp)
  have hf2 := hv4.cell (i := 2) (by simp)
  simp only [List.getElem_cons_zero, List.getElem_cons_succ] at hf0 hf1 hf2
  have hod4 := HB3.out.1.below hb34 HB3.out.1.lt
  have hos4 := HB3.out.2.1.below hb34 HB3.out.2.1.lt
  have hof4 := hof.rd
  have hs4 := hb34.size
  have HB4 := Hid.mk' (HB3.out.2.2.trans (hb34.mono hs3))
  have HV4 := Hid.mk' (And.intro hv4 (And.intro hod4 hos4))
  have hrd4 := hod4.rd
  have hrs4 := hos4.rd
  clear hfa hv4 hb4 hb34 hof HDF hod4 hos4
  go_wp2_with fail
  refine (tdrawRising_any s _ gs _ _ _ xs L fa _ HOr.out hrd4 hrs4 hof4 hl HST.out.1 HST.out.2 HFA.out).mono ?_
  rintro e w5 ⟨g5, c5, arr, rfl, hg5, ho5, hG5, hb5⟩
  have HG5 := Hid.mk' hG5
  have hv5 := HV4.out.1.below hb5 HV4.out.1.lt
  have hf0' := hv5.cell (i := 0) (by simp)
  have hf1' := hv5.cell (i := 1) (by simp)
  have hf2' := hv5.cell (i := 2) (by simp)
  simp only [List.getElem_cons_zero, List.getElem_cons_succ] at hf0' hf1' hf2'
  have hrd5 := (HV4.out.2.1.below hb5 HV4.out.2.1.lt).rd
  have hrs5 := (HV4.out.2.2.below hb5 HV4.out.2.2.lt).rd
  have hof5 := ho5.rd
  have hs5 := hb5.size
  have HB5 := Hid.mk' (HB4.out.trans (hb5.mono HB4.out.size))
  clear hG5 hv5 hb5 ho5 hf0 hf1 hf2 hrd4 hrs4 hof4 HV4
  go_wp2_with fail
  refine (tdrawFalling_any s _ gs _ _ _ xs L arr _ HOr.out hrd5 hrs5 hof5 hl HST.out.1 HST.out.2 HG5.out).mono ?_
  rintro e w6 ⟨g, c, rfl, hg, ho, hb6⟩
  go_wp2
  go_ret
  exact ⟨g, c, rfl, by omega, ho, HB5.out.trans (hb6.mono HB5.out.size)⟩

set_option maxHeartbeats 1600000 in
set_option maxRecDepth 100000 in
theorem turnsSort_any (a : Option Addr) (cap : Nat) (xs : List Int) (w : World) (hr : Rd w a xs) (hl : xs.length ≤ 1073741822) (hcap : xs.length ≤ cap) (h0 : ∀ x ∈ xs, 0 ≤ x) :
    Calls Try.prog 95 #[.slice a xs.length cap] w fun e w' => ∃ g c L, Ord xs L ∧ e = .returned (.agg #[.slice (some ⟨g, 0, none⟩) xs.length c, .int .i64 (oT xs L).length]) ∧ w.heap.size ≤ g ∧ OwnC w' g c L ∧ Below w.heap.size w w' := by
  have H0 := Hid.mk' h0
  clear h0
  have H1 := Hid.mk' (fun o => rising_any a cap xs (w.alloc o) (hr.below ((Below.refl _ _).alloc (Nat.le_refl _) _)) hl hcap)
  go_enter Try.func95, Try.ntmps95
  go_wp2_with fail
  refine (H1.out _).mono ?_
  rintro e w1 ⟨gT, L, hL, rfl, hgT, hoT, hb1⟩
  have HL := Hid.mk' hL
  have hsz : ∀ o, (w.alloc o).heap.size = w.heap.size + 1 := fun o => by simp
  rw [hsz] at hgT hb1
  have HV := Hid.mk' (OwnV.below (owned_alloc w _ _) hb1 (Nat.lt_succ_self _))
  have HB1 := Hid.mk' (((Below.refl w.heap.size w).alloc (Nat.le_refl _) _).trans (hb1.mono (Nat.le_succ _)))
  have hr1 := hr.below HB1.out
  have hrT := hoT.rd
  have hs1 := HB1.out.size
  clear hL hb1 H1
  go_wp2_with fail
  refine (tdrawnIn_any _ _ _ _ _ xs L _ hr1 hrT HL.out hl H0.out (Nat.le_refl _) rfl).mono ?_
  rintro e w2 ⟨g, c, rfl, hg, ho, hb2⟩
  have hv2 := HV.out.below hb2 HV.out.lt
  have hv0 := hv2.cell (i := 0) (by simp)
  have hv1 := hv2.cell (i := 1) (by simp)
  have hf0 := hv2.frozen 0
  have hf1 := hv2.frozen 1
  clear hv2
  simp only [List.getElem_cons_zero, List.getElem_cons_succ] at hv0 hv1
  have hvl := HV.out.lt
  have R := Hid.mk' (And.intro ho (HB1.out.trans (hb2.mono hs1)))
  clear ho hb2
  go_wp2
  refine bodyPost_ret (v := .agg #[.slice (some ⟨g, 0, none⟩) xs.length c, .int .i64 (oT xs L).length]) (by simp [results, Try.results95, go_sem, hv0, hv1]) rfl ⟨g, c, L, HL.out, rfl, by omega, (R.out.1.other (by show w.heap.size ≠ g; omega) _).other (by show w.heap.size ≠ g; omega) _, (R.out.2.setCell (Nat.le_refl _) _).setCell (Nat.le_refl _) _⟩

end Go.Proofs.Ytdhehffdddbmbaa
