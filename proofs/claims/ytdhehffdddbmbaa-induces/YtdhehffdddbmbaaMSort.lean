/-
  MSort: P8, P13: the walks of the program's Sort by marks.
-/
import Derived.Test.YtdhehffdddbmbaaPieces2
import Derived.Test.YtdhehffdddbmbaaDraw
namespace Go.Proofs.Ytdhehffdddbmbaa
open Go.RowKit

set_option maxHeartbeats 1600000 in
set_option maxRecDepth 100000 in
theorem placesByName_any (a : Option Addr) (cap : Nat) (n : Nat) (K T : List Int) (w : World) (hr : Rd w a K) (hl : n ≤ 1073741824) (hK : Plc n K) (hTl : T.length = n) (hT : ∀ i, i < n → T[(K.getD i 0).toNat]? = some (i : Int)) :
    Calls Try.prog 105 #[.slice a n cap] w fun e w' => e = .returned (.slice (some ⟨w.heap.size, 0, none⟩) n n) ∧ Own w' w.heap.size T ∧ Below w.heap.size w w' := by
  obtain ⟨i0, hi, hz0, hz1, hz2⟩ := info_parts Try.info3
  have hml : n ≤ maxLen := by unfold maxLen; omega
  have HK := Hid.mk' hK
  have HT := Hid.mk' (And.intro hTl hT)
  clear hK hTl hT
  go_enter Try.func105, Try.ntmps105
  go_wp2_with (at_make; refine wpList_make_full _ rfl _ _ 22 rfl w.heap.size 3 i0 (.int .i64 0) 1 Try.underlying22 hi hz0 hz1 _ _ _ _ n rfl rfl (by omega) (by omega) ?b2 hml (Nat.le_refl _) ?_)
  case b2 => rw [hz2]; omega
  intro w2 hown0 hgrow0
  obtain ⟨ho, hb2, hs2⟩ := made_row hown0 hgrow0
  clear hown0 hgrow0
  go_wp2
  go_loopw [4] (fun i wr => ∃ (k : Nat) (ds : List Int), k ≤ n ∧ i = .int .i64 k ∧ Hid (Fill n K (fun i => (i : Int)) ds k) ∧ Hid (Own wr w.heap.size ds) ∧ Hid (Below w.heap.size w wr)) (fun i _ => n - (intOf i).toNat)
  case atStart => exact ⟨0, _, Nat.zero_le _, rfl, Fill.start _ _ _, ho, hb2⟩
  case round =>
    clear ho hb2 hs2
    obtain ⟨k, ds, hk, rfl, HC, HO, HB⟩ := hrel
    by_cases hlt : k < n
    · have hkK : k < K.length := by have := HK.out.len; omega
      have hro := hr.below HB.out
      have hat := HK.out.ran k hlt
      obtain ⟨b', off', rfl, hb', hc'⟩ := hr.at hkK
      have hc1 := hro.cell hkK
      obtain ⟨p, hp⟩ : ∃ p : Nat, K.getD k 0 = p := ⟨(K.getD k 0).toNat, by omega⟩
      rw [hp] at hc1
      have hpx : p < n := by omega
      have HS := Hid.mk' (HC.out.step HK.out hlt hp rfl)
      have hlen : p < ds.length := by have := HC.out.1; omega
      obtain ⟨u, hcell⟩ : ∃ u, wr.cell? ⟨w.heap.size, p, none⟩ = some u := ⟨_, HO.out.cell hlen⟩
      have hfz := HO.out.frozen p
      have hne : b' ≠ w.heap.size := by omega
      have hne' : w.heap.size ≠ b' := by omega
      clear hc' hp hat hro
      go_wp2
      go_roundw
      case rel => exact ⟨k + 1, _, by omega, by go_num, HS, HO.out.set p _, HB.out.setCell (Nat.le_refl _) _⟩
      case measure => simp [intOf]; omega
    · have HN := Hid.mk' (HC.out.done HK.out (by omega) HT.out.1 HT.out.2)
      go_wp2
      go_ret
      exact ⟨rfl, by rw [← HN.out]; exact HO.out, HB.out⟩

theorem lev_le (f : List Int → Bool) : ∀ (k : Nat) (ts : List Int), lev f k ts ≤ k
  | 0, _ => Nat.le_refl _
  | k + 1, ts => by
    rw [lev]
    have := lev_le f k (names ts)
    split
    · omega
    · split <;> omega
theorem levels_le (xs : List Int) : levels xs ≤ xs.length := lev_le _ _ _

theorem names_poss {xs N : List Int} (hd : diff (names xs) = true) (hN : Ord (names xs) N) : names xs = poss N (names xs).length := by
  refine List.ext_getElem (by rw [poss_length]) (fun i h1 h2 => ?_)
  have hi : i < (marks xs).length := by rwa [names_length] at h1
  have e1 := names_getD hi
  have e2 := poss_at N (n := (names xs).length) h1
  rw [List.getD, List.getElem?_eq_getElem h1, Option.getD_some] at e1
  rw [List.getD, List.getElem?_eq_getElem h2, Option.getD_some] at e2
  rw [e1, e2, names_ps hd hN hi]

/-- What Sort by marks answers. -/
def SortC (xs : List Int) : Prop := ∀ (a : Option Addr) (len cap : Nat) (w : World), Rd w a xs → xs.length = len → xs.length ≤ 1073741822 → (∀ x ∈ xs, 0 ≤ x) →
    Calls Try.prog 94 #[.slice a len cap] w fun e w' => ∃ g L, Ord xs L ∧ e = .returned (.agg #[.slice (some ⟨g, 0, none⟩) xs.length xs.length, .int .i64 (levels xs)]) ∧ w.heap.size ≤ g ∧ Own w' g L ∧ Below w.heap.size w w'

set_option maxHeartbeats 1600000 in
set_option maxRecDepth 100000 in
theorem sortNames_any (a : Option Addr) (cap : Nat) (xs : List Int) (w : World) (hr : Rd w a (names xs)) (hl : (names xs).length ≤ 1073741822) (hI : diff (names xs) = false → SortC (names xs)) :
    Calls Try.prog 101 #[.slice a (names xs).length cap] w fun e w' => ∃ g N, Ord (names xs) N ∧ e = .returned (.agg #[.slice (some ⟨g, 0, none⟩) (names xs).length (names xs).length, .int .i64 (levels xs)]) ∧ w.heap.size ≤ g ∧ Own w' g N ∧ Below w.heap.size w w' := by
  cases hd : diff (names xs) with
  | true =>
    obtain ⟨N, hN⟩ := ord_ex (names xs)
    have HN := Hid.mk' hN
    have HE := Hid.mk' (names_poss hd hN)
    have HLv := Hid.mk' (levels_none hd)
    have HD := Hid.mk' hd
    clear hN hd hI
    have H1 := Hid.mk' (fun o => allDifferent_any a (names xs).length cap (names xs) (w.alloc o) (hr.below ((Below.refl _ _).alloc (Nat.le_refl _) _)) (by omega) rfl true HD.out)
    have H2 := Hid.mk' (fun o q => placesByName_any a cap (names xs).length (names xs) N ((w.alloc o).drewN q) (hr.below (below_drewN ((Below.refl _ _).alloc (Nat.le_refl _) _) q)) (by omega) (by rw [HE.out, poss_length]; exact Plc.poss HN.out) (OrdTo.length HN.out) (by rw [HE.out, poss_length]; exact ord_poss HN.out))
    go_enter Try.func101, Try.ntmps101
    go_wp2_with fail
    refine (H1.out _).mono ?_
    rintro e w1 ⟨rfl, q, rfl⟩
    go_wp2_with fail
    refine (H2.out _ _).mono ?_
    rintro e w2 ⟨rfl, ho2, hb2⟩
    have hsz2 : ∀ o q, ((w.alloc o).drewN q).heap.size = w.heap.size + 1 := fun o q => by simp
    rw [hsz2] at ho2 hb2
    have hv2 := OwnV.below ((owned_alloc w _ _).drewN q) hb2 (Nat.lt_succ_self _)
    have hb02 := (below_drewN ((Below.refl w.heap.size w).alloc (Nat.le_refl _) _) q).trans (hb2.mono (Nat.le_succ _))
    have hv0 := hv2.cell (i := 0) (by simp)
    have hv1 := hv2.cell (i := 1) (by simp)
    have hf0 := hv2.frozen 0
    have hf1 := hv2.frozen 1
    clear hv2 hb2
    simp only [List.getElem_cons_zero, List.getElem_cons_succ] at hv0 hv1
    go_wp2
    refine bodyPost_ret (v := .agg #[.slice (some ⟨w.heap.size + 1, 0, none⟩) (names xs).length (names xs).length, .int .i64 0]) (by simp [results, Try.results101, go_sem, hv0, hv1]) rfl ⟨w.heap.size + 1, N, HN.out, by rw [HLv.out]; rfl, by omega, (ho2.other (by show w.heap.size ≠ w.heap.size + 1; omega) _).other (by show w.heap.size ≠ w.heap.size + 1; omega) _, (hb02.setCell (Nat.le_refl _) _).setCell (Nat.le_refl _) _⟩
  | false =>
    have HLv := Hid.mk' (levels_more hd)
    have HD := Hid.mk' hd
    have HIH := Hid.mk' (hI hd)
    have hll := levels_le (names xs)
    clear hd hI
    have H1 := Hid.mk' (fun o => allDifferent_any a (names xs).length cap (names xs) (w.alloc o) (hr.below ((Below.refl _ _).alloc (Nat.le_refl _) _)) (by omega) rfl false HD.out)
    have H2 := Hid.mk' (fun o q => HIH.out a (names xs).length cap ((w.alloc o).drewN q) (hr.below (below_drewN ((Below.refl _ _).alloc (Nat.le_refl _) _) q)) rfl hl (fun x hx => (names_range hx).1))
    go_enter Try.func101, Try.ntmps101
    go_wp2_with fail
    refine (H1.out _).mono ?_
    rintro e w1 ⟨rfl, q, rfl⟩
    go_wp2_with fail
    refine (H2.out _ _).mono ?_
    rintro e w2 ⟨g, N, hN, rfl, hg, ho2, hb2⟩
    have HN := Hid.mk' hN
    have hsz2 : ∀ o q, ((w.alloc o).drewN q).heap.size = w.heap.size + 1 := fun o q => by simp
    rw [hsz2] at hg hb2
    have hv2 := OwnV.below ((owned_alloc w _ _).drewN q) hb2 (Nat.lt_succ_self _)
    have hb02 := (below_drewN ((Below.refl w.heap.size w).alloc (Nat.le_refl _) _) q).trans (hb2.mono (Nat.le_succ _))
    have hlv := hv2.lt
    have hv0 := hv2.cell (i := 0) (by simp)
    have hv1 := hv2.cell (i := 1) (by simp)
    have hf0 := hv2.frozen 0
    have hf1 := hv2.frozen 1
    have hs02 := hb02.size
    have R := Hid.mk' (And.intro ho2 hb02)
    clear hv2 hb2 hb02 ho2 hN
    simp only [List.getElem_cons_zero, List.getElem_cons_succ] at hv0 hv1
    have hne : w2.heap.size ≠ w.heap.size := by omega
    have hne' : w.heap.size ≠ w2.heap.size := by omega
    go_wp2
    refine bodyPost_ret (v := .agg #[.slice (some ⟨g, 0, none⟩) (names xs).length (names xs).length, .int .i64 ((levels (names xs) : Int) + 1)]) (by simp [results, Try.results101, go_sem, hv0, hv1, hlv]) rfl ⟨g, N, HN.out, by rw [HLv.out]; rfl, by omega, ((R.out.1.other (by show w.heap.size ≠ g; omega) _).other (by show w.heap.size ≠ g; omega) _).alloc _, ((R.out.2.setCell (Nat.le_refl _) _).setCell (Nat.le_refl _) _).alloc (by simpa using hs02) _⟩

theorem lift_at {xs L N : List Int} (hL : Ord xs L) (hN : Ord (names xs) N) {k : Nat} (hk : k < (marks xs).length) : ∃ j : Nat, N.getD k 0 = (j : Int) ∧ j < (marks xs).length ∧ (ordMarks xs L)[k]? = some (mk xs j : Int) := by
  have hat := OrdTo.at hN (i := k) (by rw [names_length]; exact hk)
  rw [names_length] at hat
  obtain ⟨j, hj⟩ : ∃ j : Nat, N.getD k 0 = (j : Int) := ⟨(N.getD k 0).toNat, by omega⟩
  have hjm : j < (marks xs).length := by omega
  refine ⟨j, hj, hjm, ?_⟩
  have hkN : k < N.length := by rw [OrdTo.length hN, names_length]; exact hk
  rw [← lifted_list hL hN, List.getElem?_map, List.getElem?_eq_getElem hkN, Option.map_some]
  rw [List.getD, List.getElem?_eq_getElem hkN, Option.getD_some] at hj
  rw [hj, mkOf_mk hjm]
theorem lift_length {xs L N : List Int} (hL : Ord xs L) (hN : Ord (names xs) N) : (ordMarks xs L).length = (marks xs).length := by
  rw [← lifted_list hL hN, List.length_map, OrdTo.length hN, names_length]
theorem lift_step {O ds : List Int} {k m : Nat} {v : Int} (hk : k < m) (hd : ds.length = m) (h : ds.take k = O.take k) (hv : O[k]? = some v) : (ds.set k v).take (k + 1) = O.take (k + 1) := by
  rw [List.take_add_one, List.take_add_one, hv, ← h, List.take_set_of_le (Nat.le_refl _), List.getElem?_set_self (by omega)]

set_option maxHeartbeats 1600000 in
set_option maxRecDepth 100000 in
theorem marksSort_step (xs : List Int) (hI : diff (names xs) = false → SortC (names xs)) : SortC xs := by
  intro a len cap w hr hlen hl h0
  subst hlen
  obtain ⟨L, hL⟩ := ord_ex xs
  obtain ⟨i0, hi, hz0, hz1, hz2⟩ := info_parts Try.info3
  have HOr := Hid.mk' hL
  have hmk := marks_length_le xs
  have hml : (marks xs).length ≤ maxLen := by unfold maxLen; omega
  have HNL := Hid.mk' (names_length xs)
  have H0 := Hid.mk' h0
  have HI := Hid.mk' hI
  have hll := levels_le xs
  have H1 := Hid.mk' (fun o => marksReduce_any a cap xs (w.alloc o) (hr.below ((Below.refl _ _).alloc (Nat.le_refl _) _)) hl h0)
  clear hL h0 hI
  go_enter Try.func94, Try.ntmps94
  go_wp2_with fail
  refine (H1.out _).mono ?_
  rintro e w1 ⟨gm, gn, cm, rfl, hgm, hgmn, hownM, hoN, hb1⟩
  have hsz : ∀ o, (w.alloc o).heap.size = w.heap.size + 1 := fun o => by simp
  rw [hsz] at hgm hb1 hownM
  have hv1 := OwnV.below (owned_alloc w _ _) hb1 (Nat.lt_succ_self _)
  have hb01 := ((Below.refl w.heap.size w).alloc (Nat.le_refl _) _).trans (hb1.mono (Nat.le_succ _))
  have hsn := sortNames_any (some ⟨gn, 0, none⟩) (marks xs).length xs w1 hoN.rd (by rw [HNL.out]; omega) HI.out
  rw [HNL.out] at hsn
  have HSN := Hid.mk' hsn
  have hltN := hoN.lt
  clear hsn H1 hb1
  go_wp2_with fail
  refine HSN.out.mono ?_
  rintro e w2 ⟨go, N, hN, rfl, hgo, hoO, hb2⟩
  have HN := Hid.mk' hN
  have hv2 := hv1.below hb2 (by omega)
  have hb02 := hb01.trans (hb2.mono hb01.size)
  have hownM2 := owns_below hownM hb2
  have hs2 := hb02.size
  have hlt2 := hb2.size
  have hltO := hoO.lt
  clear hN HSN hv1 hb01 hownM hb2
  go_wp2_with (at_make; refine wpList_make_full _ rfl _ _ 22 rfl _ 3 i0 (.int .i64 0) 1 Try.underlying22 hi hz0 hz1 _ _ _ _ (marks xs).length rfl rfl (by omega) (by omega) ?b2 hml (Nat.le_refl _) ?_)
  case b2 => rw [hz2]; omega
  intro w3 hown0 hgrow0
  have hsz2 : ∀ o, (w2.alloc o).heap.size = w2.heap.size + 1 := fun o => by simp
  obtain ⟨hoR, hb3, hs3⟩ := made_row (w := w2.alloc _) (by rw [hsz2]; exact hown0) hgrow0
  rw [hsz2] at hoR hb3 hs3
  have hbx := OwnV.below (owned_alloc w2 _ _) hb3 (Nat.lt_succ_self _)
  have hb23 := ((Below.refl w2.heap.size w2).alloc (Nat.le_refl _) _).trans (hb3.mono (Nat.le_succ _))
  have HH := Hid.mk' (And.intro hoR (And.intro hbx (And.intro (hv2.below hb23 (by omega)) (hb02.trans (hb23.mono hs2)))))
  have HM := Hid.mk' (owns_below hownM2 hb23)
  have HO3 := Hid.mk' (hoO.below hb23 hltO)
  have hltR := hoR.lt
  clear hown0 hgrow0 hoR hb3 hbx hb23 hv2 hb02 hownM2 hoO
  go_wp2
  go_loopw [7] (fun i wr => ∃ (k : Nat) (ds : List Int), k ≤ (marks xs).length ∧ i = .int .i64 k ∧ Hid (ds.length = (marks xs).length) ∧ Hid (ds.take k = (ordMarks xs L).take k) ∧ Hid (Own wr (w2.heap.size + 1) ds) ∧ Hid (Below (w2.heap.size + 1) w3 wr)) (fun i _ => (marks xs).length - (intOf i).toNat)
  case atStart => exact ⟨0, List.replicate (marks xs).length 0, Nat.zero_le _, rfl, by simp [Hid], rfl, HH.out.1, Below.refl _ _⟩
  case round =>
    obtain ⟨k, ds, hk, rfl, HL, HT, HO, HB⟩ := hrel
    have hvx := HH.out.2.1.below HB.out (Nat.lt_succ_self _)
    have hx0 := hvx.cell (i := 0) (by simp)
    have hx1 := hvx.cell (i := 1) (by simp)
    simp only [List.getElem_cons_zero, List.getElem_cons_succ] at hx0 hx1
    clear hvx
    by_cases hlt : k < (marks xs).length
    · obtain ⟨j, hj, hjm, hat⟩ := lift_at HOr.out HN.out hlt
      have HS := Hid.mk' (lift_step hlt HL.out HT.out hat)
      have hcO := (HO3.out.below HB.out (by omega)).cell (i := k) (by rw [OrdTo.length HN.out, HNL.out]; exact hlt)
      rw [hj] at hcO
      have hcM0 := (ownsRow_cells HM.out).2 j (.int .i64 (mk xs j)) (by rw [List.getElem?_map, List.getElem?_eq_getElem hjm, Option.map_some]; have := mk_at hjm; rw [List.getD, List.getElem?_eq_getElem hjm, Option.getD_some] at this; rw [this])
      have hcM : wr.cell? ⟨gm, j, none⟩ = some (.int .i64 (mk xs j)) := (HB.out.cell (p := ⟨gm, j, none⟩) (by show gm < w2.heap.size + 1; omega)).trans hcM0
      obtain ⟨u, hcell⟩ : ∃ u, wr.cell? ⟨w2.heap.size + 1, k, none⟩ = some u := ⟨_, HO.out.cell (by rw [HL.out]; exact hlt)⟩
      have hfz := HO.out.frozen k
      clear hj hat hcM0 hx1
      go_wp2
      go_roundw
      case rel => exact ⟨k + 1, _, by omega, by go_num, by rw [Hid, List.length_set]; exact HL.out, HS, HO.out.set k _, HB.out.setCell (Nat.le_refl _) _⟩
      case measure => simp [intOf]; omega
    · have HE : Hid (ds = ordMarks xs L) := by
        have h1 := HT.out
        rw [List.take_of_length_le (by rw [HL.out]; omega), List.take_of_length_le (by rw [lift_length HOr.out HN.out]; omega)] at h1
        exact h1
      have hrr := hr.below (HH.out.2.2.2.trans (HB.out.mono (by omega)))
      have hrO := HO.out.rd
      rw [HE.out] at hrO
      have HLL := Hid.mk' (lift_length HOr.out HN.out)
      have HBX := Hid.mk' (HH.out.2.2.2.trans (HB.out.mono (by omega)))
      have HVX := Hid.mk' (HH.out.2.2.1.below HB.out (by omega))
      have HBV := Hid.mk' (HH.out.2.1.below HB.out (Nat.lt_succ_self _))
      have hltw : w2.heap.size < wr.heap.size := HBV.out.lt
      have n1 : w2.heap.size ≠ w.heap.size := by omega
      have n2 : w.heap.size ≠ w2.heap.size := by omega
      clear hx0
      go_wp2
      go_region_held3 (fun w' => w'.cell? ⟨w2.heap.size, 1, none⟩ = some (.int .i64 (levels xs))) (go_keep) ((go_at_call 102; refine (drawnIn_any a (some ⟨w2.heap.size + 1, 0, none⟩) cap (marks xs).length (marks xs).length xs L _ (by exact hrr) (by exact hrO) HOr.out hl H0.out HLL.out).mono ?_; rintro e w5 ⟨g, rfl, hg, ho, hb5⟩; have hq := OwnV.below (w := _) (by exact HBV.out) hb5 (by show w2.heap.size < wr.heap.size; omega); have hq1 := hq.cell (i := 1) (by simp); have hp := OwnV.below (w := _) (by exact HVX.out) hb5 (by show w.heap.size < wr.heap.size; omega); have hv0 := hp.cell (i := 0) (by simp); have hv1 := hp.cell (i := 1) (by simp); have hf0 := hp.frozen 0; have hf1 := hp.frozen 1; simp only [List.getElem_cons_zero, List.getElem_cons_succ] at hq1 hv0 hv1))
      have hg' : wr.heap.size ≤ g := hg
      have R := Hid.mk' (And.intro ho (HBX.out.drew.trans (hb5.mono HBX.out.size)))
      clear hq hp hb5 ho hg
      go_wp2
      refine bodyPost_ret (v := .agg #[.slice (some ⟨g, 0, none⟩) xs.length xs.length, .int .i64 (levels xs)]) (by simp [results, Try.results94, go_sem, hv0, hv1]) rfl ⟨g, L, HOr.out, rfl, by omega, (R.out.1.other (by show w.heap.size ≠ g; omega) _).other (by show w.heap.size ≠ g; omega) _, (R.out.2.setCell (Nat.le_refl _) _).setCell (Nat.le_refl _) _⟩

theorem marksSort_any : ∀ (n : Nat) (xs : List Int), xs.length = n → SortC xs := by
  intro n
  induction n using Nat.strongRecOn with
  | ind n ih =>
    intro xs hn
    refine marksSort_step xs (fun hd => ?_)
    have h0 : 0 < xs.length := by
      rcases Nat.eq_zero_or_pos xs.length with h | h
      · have : names xs = [] := List.eq_nil_of_length_eq_zero (by rw [names_length]; have := marks_length_le xs; omega)
        rw [this] at hd
        simp [diff] at hd
      · exact h
    exact ih _ (by rw [← hn]; exact names_short h0) (names xs) rfl

end Go.Proofs.Ytdhehffdddbmbaa
