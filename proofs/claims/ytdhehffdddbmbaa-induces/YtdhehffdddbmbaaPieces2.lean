/-
  Pieces2: P12: the walks of the program's piecesOf, differentOf, Reduce.
-/
import Derived.Test.YtdhehffdddbmbaaPieces
import Derived.Test.YtdhehffdddbmbaaKinds
namespace Go.Proofs.Ytdhehffdddbmbaa
open Go.RowKit

/-! ### The pieces, cut out of the weights -/

/-- The pieces' lists. -/
def ics (xs : List Int) : List (List Int) := (List.range (marks xs).length).map (ic xs)
theorem ics_length (xs : List Int) : (ics xs).length = (marks xs).length := by simp [ics]
theorem ics_at {xs : List Int} {i : Nat} (h : i < (marks xs).length) : (ics xs)[i]? = some (ic xs i) := by simp [ics, h]
theorem ics_ex {xs : List Int} {i : Nat} {l : List Int} (h : (ics xs)[i]? = some l) : i < (marks xs).length ∧ l = ic xs i := by
  have hi : i < (marks xs).length := by have := (List.getElem?_eq_some_iff.1 h).1; rwa [ics_length] at this
  rw [ics_at hi] at h
  exact ⟨hi, (Option.some.inj h).symm⟩
theorem ic_short {xs : List Int} {i : Nat} (h : i < (marks xs).length) : (ic xs i).length ≤ xs.length + 1 := by
  rw [ic_length h]; have := mk_nx h; omega

/-- The slice of a piece. -/
def pv (xs : List Int) (g c i : Nat) : Value := .slice (some ⟨g, mk xs i, none⟩) (nx xs i + 1 - mk xs i) (c - mk xs i)
structure Cut (xs : List Int) (g c k : Nat) (cs : List Value) : Prop where
  len : cs.length = (marks xs).length
  at' : ∀ i, k ≤ i → i < (marks xs).length → cs[i]? = some (pv xs g c i)
theorem Cut.start (xs : List Int) (g c : Nat) : Cut xs g c (marks xs).length (List.replicate (marks xs).length (.slice none 0 0)) := ⟨by simp, fun i h1 h2 => by omega⟩
theorem Cut.step {xs : List Int} {g c k : Nat} {cs : List Value} (h : Cut xs g c (k + 1) cs) (hk : k < (marks xs).length) {v : Value} (hv : v = pv xs g c k) : Cut xs g c k (cs.set k v) := by
  refine ⟨by simp [h.len], fun i h1 h2 => ?_⟩
  rcases Nat.eq_or_lt_of_le h1 with rfl | h3
  · rw [List.getElem?_set_self (by rw [h.len]; exact hk), hv]
  · rw [List.getElem?_set_ne (by omega)]; exact h.at' i h3 h2
theorem Cut.sls {xs : List Int} {g c : Nat} {cs : List Value} {w : World} (h : Cut xs g c 0 cs) (hr : Rd w (some ⟨g, 0, none⟩) (wts xs)) : Sls w cs (ics xs) := by
  refine ⟨by rw [h.len, ics_length], fun i l hi => ?_⟩
  obtain ⟨hlt, rfl⟩ := ics_ex hi
  refine ⟨some ⟨g, Go.Proofs.Ytdhehffdddbmbaa.mk xs i, none⟩, c - Go.Proofs.Ytdhehffdddbmbaa.mk xs i, ?_, ?_⟩
  · rw [h.at' i (Nat.zero_le _) hlt, ic_length hlt]; rfl
  · rw [ic_cut hlt]
    have := (hr.drop (Go.Proofs.Ytdhehffdddbmbaa.mk xs i)).take (nx xs i + 1 - Go.Proofs.Ytdhehffdddbmbaa.mk xs i)
    rwa [Nat.zero_add] at this
theorem mk_at {xs : List Int} {i : Nat} (h : i < (marks xs).length) : (marks xs).getD i 0 = (mk xs i : Int) := by
  obtain ⟨p, hp, _, _⟩ := marks_at h
  unfold mk
  rw [hp]; simp

theorem made_rowV {w w0 : World} {n : Nat} (h : w0.ownsRow w.heap.size 22 1 (.slice (some ⟨w.heap.size, 0, none⟩) n n) n (madeCells #[Value.slice none 0 0] n).toList) (hg : w.grownBy w0 none) :
    OwnV w0 w.heap.size 22 (List.replicate n (.slice none 0 0)) ∧ Below w.heap.size w w0 ∧ w.heap.size < w0.heap.size := by
  rw [toList_madeCells_one] at h
  have ho : OwnV w0 w.heap.size 22 (List.replicate n (.slice none 0 0)) := by
    obtain ⟨hl, h2⟩ := h
    rcases h2 with ⟨hv, _⟩ | ⟨g', cap, cur, hv, _, hh, _, _, hsz, ht⟩
    · cases hv
    · cases hv
      simp at hsz ht hl
      unfold OwnV
      rw [hh]
      rw [List.take_of_length_le (by simp; omega)] at ht
      congr 1
      rw [← ht]
  exact ⟨ho, (Below.refl _ _).grown hg (Nat.le_refl _) (fun k h => by cases h), ho.lt⟩

set_option maxHeartbeats 1600000 in
set_option maxRecDepth 100000 in
theorem piecesOf_any (g c : Nat) (a : Option Addr) (cap : Nat) (xs : List Int) (w : World) (hw : Rd w (some ⟨g, 0, none⟩) (wts xs)) (hm : Rd w a (marks xs)) (hl : xs.length ≤ 1073741822) (hc : xs.length + 1 ≤ c) (hc' : c ≤ 9223372036854775807) :
    Calls Try.prog 88 #[.slice (some ⟨g, 0, none⟩) (xs.length + 1) c, .slice a (marks xs).length cap] w fun e w' => e = .returned (.slice (some ⟨w.heap.size, 0, none⟩) (marks xs).length (marks xs).length) ∧ RdL w' (some ⟨w.heap.size, 0, none⟩) (ics xs) ∧ Below w.heap.size w w' := by
  obtain ⟨i0, hi, hz0, hz1, hz2⟩ := info_parts Try.infoSlice
  have hmk := marks_length_le xs
  have hml : (marks xs).length ≤ maxLen := by unfold maxLen; omega
  go_enter Try.func88, Try.ntmps88
  go_wp2_with (at_make; refine wpList_make_full _ rfl _ _ 63 rfl w.heap.size 22 i0 (.slice none 0 0) 1 Try.underlying63 hi hz0 hz1 _ _ _ _ (marks xs).length rfl rfl (by omega) (by omega) ?b2 hml (Nat.le_refl _) ?_)
  case b2 => rw [hz2]; omega
  intro w2 hown0 hgrow0
  obtain ⟨ho, hb2, hs2⟩ := made_rowV (by simpa using hown0) hgrow0
  clear hown0 hgrow0
  go_wp2
  go_loopw [6, 7] (fun ed i wr => ∃ (k e : Nat) (cs : List Value), k ≤ (marks xs).length ∧ i = .int .i64 ((k : Int) - 1) ∧ ed = .int .i64 e ∧ e ≤ xs.length + 1 ∧ Hid (∀ j, k = j + 1 → e = nx xs j + 1) ∧ Hid (Cut xs g c k cs) ∧ Hid (OwnV wr w.heap.size 22 cs) ∧ Hid (Below w.heap.size w wr)) (fun _ i _ => (intOf i + 1).toNat)
  case atStart => exact ⟨(marks xs).length, xs.length + 1, _, Nat.le_refl _, rfl, by go_num, Nat.le_refl _, fun j hj => by unfold nx; rw [if_neg (by omega)], Cut.start xs g c, ho, hb2⟩
  case round =>
    clear ho hb2 hs2
    obtain ⟨k, e, cs, hk, rfl, rfl, hel, HE, HC, HO, HB⟩ := hrel
    cases k with
    | zero =>
      have R := Hid.mk' (And.intro (rdL_of_ownV HO.out (HC.out.sls (hw.below HB.out))) HB.out)
      go_wp2
      go_ret
      exact ⟨rfl, R.out.1, R.out.2⟩
    | succ m =>
      have hm' : m < (marks xs).length := by omega
      have hrm := hm.below HB.out
      obtain ⟨p, hp⟩ : ∃ p : Nat, mk xs m = p := ⟨_, rfl⟩
      have hpx := (mk_lt hm').1
      have hnx := mk_nx hm'
      have hee := HE.out m rfl
      rw [hp] at hpx hnx
      obtain ⟨b', off', rfl, hb', hc0⟩ := hm.at hm'
      have hc1 := hrm.cell hm'
      rw [mk_at hm', hp] at hc1
      have hpe : p ≤ e := by omega
      have hlen : m < cs.length := by rw [HC.out.len]; exact hm'
      obtain ⟨u, hcell⟩ : ∃ u, wr.cell? ⟨w.heap.size, m, none⟩ = some u := ⟨_, HO.out.cell hlen⟩
      have hfz := HO.out.frozen m
      have hne : b' ≠ w.heap.size := by omega
      have hne' : w.heap.size ≠ b' := by omega
      have HV : Hid (Value.slice (some ⟨g, p, none⟩) (e - p) (c - p) = pv xs g c m) := by unfold pv; rw [hp, hee]; rfl
      have HS := Hid.mk' (HC.out.step hm' HV.out)
      have HNX : Hid (∀ j, m = j + 1 → p + 1 = nx xs j + 1) := fun j hj => by
        subst hj
        unfold nx
        rw [if_pos hm', hp]
      have hcp : ¬ c = p := by omega
      rw [show ((m + 1 : Nat) : Int) - 1 = (m : Int) by omega]
      clear hc0 hrm hp hee hnx HE HC
      go_wp2
      go_roundw
      case rel => exact ⟨m, p + 1, _, by omega, by go_num, by go_num, by omega, HNX, HS, HO.out.set m _, HB.out.setCell (Nat.le_refl _) _⟩
      case measure => simp [intOf]

/-! ### Each piece once -/

theorem dif_short {xs : List Int} {n : Nat} (hn : n ≤ (marks xs).length) : ∀ l ∈ dif xs n, l.length ≤ xs.length + 1 := by
  intro l hl
  unfold dif at hl
  obtain ⟨i, hi, rfl⟩ := List.mem_map.1 hl
  rw [List.mem_filter, List.mem_range] at hi
  exact ic_short (by omega)

set_option maxHeartbeats 1600000 in
set_option maxRecDepth 100000 in
theorem differentOf_any (a : Option Addr) (cap : Nat) (xs : List Int) (w : World) (hr : RdL w a (ics xs)) (hl : xs.length ≤ 1073741822) :
    Calls Try.prog 89 #[.slice a (marks xs).length cap] w fun e w' => e = .returned (.slice (some ⟨w.heap.size, 0, none⟩) (dif xs (marks xs).length).length (marks xs).length) ∧ RdL w' (some ⟨w.heap.size, 0, none⟩) (dif xs (marks xs).length) ∧ Below w.heap.size w w' := by
  obtain ⟨i0, hi, hz0, hz1, hz2⟩ := info_parts Try.infoSlice
  have hmk := marks_length_le xs
  have hml : (marks xs).length ≤ maxLen := by unfold maxLen; omega
  go_enter Try.func89, Try.ntmps89
  go_wp2_with (at_make; refine wpList_make_own _ rfl _ _ 63 rfl w.heap.size 22 i0 (.slice none 0 0) 1 Try.underlying63 hi hz0 hz1 _ _ _ (marks xs).length rfl rfl (by omega) ?b2 hml (Nat.le_refl _) ?_)
  case b2 => rw [hz2]; omega
  intro w0 hown0 hgrow0
  have hb0 : Below w.heap.size w w0 := (Below.refl _ _).grown hgrow0 (Nat.le_refl _) (fun k h => by cases h)
  go_wp2
  go_loopw [3, 4] (fun out i wr => ∃ (n : Nat) (vs : List Value), n ≤ (marks xs).length ∧ i = .int .i64 n ∧ out = .slice (some ⟨w.heap.size, 0, none⟩) (dif xs n).length (marks xs).length ∧ wr.ownsRow w.heap.size 22 1 (.slice (some ⟨w.heap.size, 0, none⟩) (dif xs n).length (marks xs).length) (dif xs n).length vs ∧ Hid (Sls w vs (dif xs n)) ∧ Below w.heap.size w wr) (fun _ i _ => (marks xs).length - (intOf i).toNat)
  case atStart => exact ⟨0, [], Nat.zero_le _, rfl, rfl, hown0, Sls.nil _, hb0⟩
  case round =>
    clear hown0 hgrow0 hb0
    obtain ⟨n, vs, hn, rfl, rfl, hown, HS, hbr⟩ := hrel
    have hsz := hbr.size
    have hle := dif_length_le xs n
    by_cases hlt : n < (marks xs).length
    · have hsucc := dif_succ xs n
      have hmem := dif_mem (xs := xs) (n := n)
      obtain ⟨b, off, A, c, rfl, hc0, hrA0⟩ := hr.at (ics_at hlt)
      have hb : b < w.heap.size := by
        obtain ⟨b2, off2, he, h1, _⟩ := hr (by intro e; have := ics_length xs; rw [e] at this; simp at this; omega)
        cases he; exact h1
      have hc1 := (hbr.cell (p := ⟨b, off + n, none⟩) hb).trans hc0
      have hrA := hrA0.below hbr
      have hrL := rdL_of_owns hown (HS.out.below hbr)
      have hshort := ic_short hlt
      have HA := Hid.mk' hrA0
      clear hc0 hrA0
      cases hh : hadTo xs n n with
      | true =>
        rw [hh, if_pos rfl, List.append_nil] at hsucc
        have HQ := Hid.mk' hsucc
        have HV : Hid (true = decide (ic xs n ∈ dif xs n)) := by rw [Hid, eq_comm, decide_eq_true_iff, hmem, hh]
        clear hsucc hmem hh
        go_wp2_with fail
        refine (isAmong_any _ _ _ _ _ _ (dif xs n) (ic xs n) _ hrL hrA (by omega) (by unfold maxLen; omega) (fun l hl2 => by have := dif_short hn l hl2; unfold maxLen; omega) rfl rfl true HV.out).mono ?_
        rintro e w2 ⟨rfl, q, rfl⟩
        have R := Hid.mk' (And.intro (show (wr.drewN q).ownsRow _ _ _ _ _ _ from hown) (below_drewN hbr q))
        clear hown hbr hrL hrA hc1
        go_wp2
        go_roundw
        case rel => exact ⟨n + 1, vs, by omega, by go_num, by rw [HQ.out], by rw [HQ.out]; exact R.out.1, by rw [HQ.out]; exact HS, R.out.2⟩
        case measure => simp [intOf]; omega
      | false =>
        rw [hh, if_neg (by simp)] at hsucc
        have HQ := Hid.mk' hsucc
        have HV : Hid (false = decide (ic xs n ∈ dif xs n)) := by rw [Hid, eq_comm, decide_eq_false_iff_not, hmem, hh]; simp
        have HL : Hid ((dif xs (n + 1)).length = (dif xs n).length + 1) := by rw [Hid, hsucc]; simp
        clear hsucc hmem hh
        go_wp2_with fail
        refine (isAmong_any _ _ _ _ _ _ (dif xs n) (ic xs n) _ hrL hrA (by omega) (by unfold maxLen; omega) (fun l hl2 => by have := dif_short hn l hl2; unfold maxLen; omega) rfl rfl false HV.out).mono ?_
        rintro e w2 ⟨rfl, q, rfl⟩
        have hown2 : (wr.drewN q).ownsRow w.heap.size 22 1 (.slice (some ⟨w.heap.size, 0, none⟩) (dif xs n).length (marks xs).length) (dif xs n).length vs := hown
        have hbr2 := below_drewN hbr q
        have hc2 : (wr.drewN q).cell? ⟨b, off + n, none⟩ = some (.slice A (ic xs n).length c) := hc1
        generalize hu : wr.drewN q = u2 at hown2 hbr2 hc2
        have hsz2 := hbr2.size
        clear hown hbr hrL hrA hc1 hu hsz
        go_wp2_with (at_builtin; refine wpList_append_fits _ rfl _ _ 63 rfl w.heap.size 22 i0 1 Try.underlying63 hi hz1 w.heap.size (dif xs n).length (marks xs).length _ rfl (hown2.alloc _) ⟨u2.heap.size, 0, none⟩ 1 1 [.slice A (ic xs n).length c] rfl rfl (by intro t u ht; match t, ht with | 0, ht => simp at ht; subst ht; simp [Addr.add]) (by intro u hu; simp at hu; subst hu; rfl) (by omega) ?_; intro w3 hown3 hgrow3)
        have hn3 : Below w.heap.size w w3 := (hbr2.alloc hbr2.size _).grown hgrow3 (by simp; omega) (fun k hk => by cases hk; exact Nat.le_refl _)
        clear hown2 hgrow3 hbr2
        go_wp2
        go_roundw
        case rel => exact ⟨n + 1, _, by omega, by go_num, by rw [HL.out], by rw [HL.out]; exact hown3, by rw [HQ.out]; exact HS.out.snoc HA.out, hn3⟩
        case measure => simp [intOf]; omega
    · obtain rfl : n = (marks xs).length := by omega
      have R := Hid.mk' (And.intro (rdL_of_owns hown (HS.out.below hbr)) hbr)
      clear hown hbr
      go_wp2
      go_ret
      exact ⟨rfl, R.out.1, R.out.2⟩

/-! ### Marks and names -/

theorem names_step {xs ds : List Int} {n : Nat} (hn : n < (marks xs).length) (hd : ds.length = (marks xs).length) (h : ds.take n = (names xs).take n) : (ds.set n (nm xs n : Int)).take (n + 1) = (names xs).take (n + 1) := by
  rw [List.take_add_one, List.take_add_one, names_at hn, ← h, List.take_set_of_le (Nat.le_refl _)]
  congr 1
  rw [List.getElem?_set_self (by omega)]

set_option maxHeartbeats 1600000 in
set_option maxRecDepth 100000 in
theorem marksReduce_any (a : Option Addr) (cap : Nat) (xs : List Int) (w : World) (hr : Rd w a xs) (hl : xs.length ≤ 1073741822) (h0 : ∀ x ∈ xs, 0 ≤ x) :
    Calls Try.prog 64 #[.slice a xs.length cap] w fun e w' => ∃ g g' c, e = .returned (.tuple #[.slice (some ⟨g, 0, none⟩) (marks xs).length c, .slice (some ⟨g', 0, none⟩) (marks xs).length (marks xs).length]) ∧ w.heap.size ≤ g ∧ g < g' ∧ w'.ownsRow w.heap.size 3 1 (.slice (some ⟨g, 0, none⟩) (marks xs).length c) (marks xs).length ((marks xs).map (Value.int .i64)) ∧ Own w' g' (names xs) ∧ Below w.heap.size w w' := by
  obtain ⟨i0, hi, hz0, hz1, hz2⟩ := info_parts Try.info3
  have hmk := marks_length_le xs
  have hml : (marks xs).length ≤ maxLen := by unfold maxLen; omega
  obtain ⟨hsz, hby⟩ := kinds_string xs
  have HST := Hid.mk' (And.intro hsz hby)
  have H0 := Hid.mk' h0
  clear hsz hby h0
  go_enter Try.func64, Try.ntmps64
  go_wp2_with fail
  refine (textsKinds_any a cap xs _ hr (by omega)).mono ?_
  rintro e w1 ⟨rfl, hb1⟩
  generalize strOfNums (kindsL xs) = s at HST
  have hr1 := hr.below hb1
  go_wp2_with fail
  refine (marksOf_any xs s _ (by omega) HST.out.1 HST.out.2).mono ?_
  rintro e w2 ⟨rfl, hownM, hb2⟩
  have hb02 : Below w.heap.size w w2 := hb1.trans (hb2.mono hb1.size)
  have hr2 := hr1.below hb2
  have hs1 := hb1.size
  have hltM := (ownsRow_cells hownM).1
  clear hr1 hb1 hb2
  go_wp2_with fail
  refine (weightsOf_any a cap xs s _ hr2 (by omega) H0.out HST.out.1 HST.out.2).mono ?_
  rintro e w3 ⟨gw, cw, hgw, rfl, hcw, hcw', hrW, hb3, hs3⟩
  have hb03 : Below w.heap.size w w3 := hb02.trans (hb3.mono hb02.size)
  have hownM3 := owns_below hownM hb3
  clear hb02 hr2 hownM hb3
  go_wp2_with fail
  refine (piecesOf_any gw cw _ _ xs _ hrW (rd_of_owns hownM3) hl hcw hcw').mono ?_
  rintro e w4 ⟨rfl, hrP, hb4⟩
  have hb04 : Below w.heap.size w w4 := hb03.trans (hb4.mono hb03.size)
  have hownM4 := owns_below hownM3 hb4
  have hs4 := hb4.size
  clear hb03 hownM3 hb4 hrW
  go_wp2_with fail
  refine (differentOf_any _ _ xs _ hrP hl).mono ?_
  rintro e w5 ⟨rfl, hrD, hb5⟩
  have hb05 : Below w.heap.size w w5 := hb04.trans (hb5.mono hb04.size)
  have hownM5 := owns_below hownM4 hb5
  have hrP5 := hrP.below hb5
  have hs5 := hb5.size
  clear hb04 hownM4 hb5 hrP
  go_wp2_with (at_make; refine wpList_make_full _ rfl _ _ 22 rfl w5.heap.size 3 i0 (.int .i64 0) 1 Try.underlying22 hi hz0 hz1 _ _ _ _ (marks xs).length rfl rfl (by omega) (by omega) ?b2 hml (Nat.le_refl _) ?_)
  case b2 => rw [hz2]; omega
  intro w6 hown0 hgrow0
  obtain ⟨ho, hb6, hs6⟩ := made_row hown0 hgrow0
  have hg15 : w1.heap.size < w5.heap.size := by omega
  clear hown0 hgrow0
  go_wp2
  go_loopw [10] (fun i wr => ∃ (n : Nat) (ds : List Int), n ≤ (marks xs).length ∧ i = .int .i64 n ∧ Hid (ds.length = (marks xs).length) ∧ Hid (ds.take n = (names xs).take n) ∧ Hid (Own wr w5.heap.size ds) ∧ Hid (Below w5.heap.size w5 wr)) (fun i _ => (marks xs).length - (intOf i).toNat)
  case atStart => exact ⟨0, List.replicate (marks xs).length 0, Nat.zero_le _, rfl, by simp [Hid], rfl, ho, hb6⟩
  case round =>
    clear ho hb6 hs6
    obtain ⟨n, ds, hn, rfl, HL, HT, HO, HB⟩ := hrel
    by_cases hlt : n < (marks xs).length
    · have hrP6 := hrP5.below HB.out
      have hrD6 := hrD.below HB.out
      obtain ⟨b, off, A, c, hbo, hc1, hrA⟩ := hrP6.at (ics_at hlt)
      cases hbo
      rw [Nat.zero_add] at hc1
      have hdl := dif_length_le xs (marks xs).length
      have HC := Hid.mk' (dif_count xs n)
      have hnm : nm xs n ≤ (marks xs).length := by
        rw [← HC.out]; exact Nat.le_trans List.countP_le_length hdl
      have HN := Hid.mk' (names_step hlt HL.out HT.out)
      have HI := Hid.mk' (mcountLesser_any (some ⟨w4.heap.size, 0, none⟩) A (marks xs).length c _ _ (dif xs (marks xs).length) (ic xs n) wr hrD6 hrA (by omega) (fun l hl2 => by have := dif_short (Nat.le_refl _) l hl2; omega) rfl rfl)
      rw [HC.out] at HI
      obtain ⟨u, hcell⟩ : ∃ u, wr.cell? ⟨w5.heap.size, n, none⟩ = some u := ⟨_, HO.out.cell (by rw [HL.out]; exact hlt)⟩
      have hfz := HO.out.frozen n
      clear hrP6 hrD6
      go_wp2_with fail
      refine HI.out.mono ?_
      rintro e w7 ⟨rfl, q, rfl⟩
      go_wp2
      go_roundw
      case rel => exact ⟨n + 1, _, by omega, by go_num, by rw [Hid, List.length_set]; exact HL.out, HN.out, (HO.out.drewN q).set n _, (below_drewN HB.out q).setCell (Nat.le_refl _) _⟩
      case measure => simp [intOf]; omega
    · have HE : Hid (ds = names xs) := by
        have h1 := HT.out
        rw [List.take_of_length_le (by rw [HL.out]; omega), List.take_of_length_le (by rw [names_length]; omega)] at h1
        exact h1
      have R := Hid.mk' (And.intro (owns_below hownM5 HB.out) (hb05.trans (HB.out.mono hb05.size)))
      clear hownM5 hb05
      go_wp2
      go_ret2
      exact ⟨_, _, _, rfl, hs1, hg15, ownsRow_base R.out.1 hs1, by rw [← HE.out]; exact HO.out, R.out.2⟩

theorem reduceErr_any (a : Option Addr) (cap : Nat) (xs : List Int) (k : Int) (w : World) (hr : Rd w a xs) (hl : xs.length ≤ maxLen) (hs : scanE xs k ≠ 0) :
    Calls Try.prog 38 #[.slice a xs.length cap, .int .i64 k] w fun e w' => e = .returned (.tuple #[.slice none 0 0, .slice none 0 0, .int .i64 (scanE xs k)]) ∧ Below w.heap.size w w' := by
  have hb : (scanE xs k != 0) = true := by simpa using hs
  clear hs
  go_enter Try.func38, Try.ntmps38
  go_wp2_with (go_at_call 44; refine (fault_any a cap xs k _ hr hl).mono ?_; rintro e w' ⟨rfl, rfl⟩)
  go_ret3
  exact ⟨rfl, Below.refl _ _⟩

set_option maxHeartbeats 800000 in
theorem reduceOk_any (a : Option Addr) (cap : Nat) (xs : List Int) (k : Int) (w : World) (hr : Rd w a xs) (_hcap : xs.length ≤ cap) (_hcap' : cap ≤ 9223372036854775807) (hs : scanE xs k = 0) :
    Calls Try.prog 38 #[.slice a xs.length cap, .int .i64 k] w fun e w' => ∃ v v', e = .returned (.tuple #[v, v', .int .i64 0]) ∧ w'.ownsRow w.heap.size 3 1 v (marks xs).length ((marks xs).map (Value.int .i64)) ∧ w'.ownsRow w.heap.size 3 1 v' (names xs).length ((names xs).map (Value.int .i64)) ∧ (v.ownBlock = none ∨ v.ownBlock ≠ v'.ownBlock) ∧ Below w.heap.size w w' := by
  obtain ⟨h96, h0, -⟩ := scan_zero hs
  have hl : xs.length ≤ maxLen := by unfold maxLen; omega
  have hb : (scanE xs k != 0) = false := by simpa using hs
  have HNL := Hid.mk' (names_length xs)
  have hml : (marks xs).length ≤ maxLen := by have := marks_length_le xs; unfold maxLen; omega
  have H0 := Hid.mk' h0
  clear hs h0
  go_enter Try.func38, Try.ntmps38
  go_wp2_with (go_at_call 44; refine (fault_any a cap xs k _ hr hl).mono ?_; rintro e w' ⟨rfl, rfl⟩)
  refine (marksReduce_any a cap xs _ hr (by omega) H0.out).mono ?_
  rintro e w1 ⟨g, g', c, rfl, hg, hgg, hown, ho, hb1⟩
  have R := Hid.mk' (And.intro hown (And.intro (owns_of_own ho (Nat.le_of_lt (Nat.lt_of_le_of_lt hg hgg)) HNL.out hml) hb1))
  clear hown ho hb1
  go_wp2
  go_ret3
  refine ⟨_, _, rfl, R.out.1, by rw [HNL.out]; exact R.out.2.1, .inr ?_, R.out.2.2⟩
  intro h
  simp [Value.ownBlock] at h
  omega

end Go.Proofs.Ytdhehffdddbmbaa
