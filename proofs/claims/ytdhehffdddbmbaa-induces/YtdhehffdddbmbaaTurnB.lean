/-
  TurnB: P15: the walks of the program's way by turns: pairs, laying, drawing in.
-/
import Derived.Test.YtdhehffdddbmbaaTurnA
import Derived.Test.YtdhehffdddbmbaaSort
import Derived.Deep.RegionHeld3
namespace Go.Proofs.Ytdhehffdddbmbaa
open Go.RowKit

/-! ### A row with room behind it -/

/-- Block g is a row of the call's own, of c places, that begins with xs. -/
def OwnC (w : World) (g c : Nat) (xs : List Int) : Prop := ∃ ts : List Value, OwnV w g 3 (xs.map (Value.int .i64) ++ ts) ∧ xs.length + ts.length = c ∧ c ≤ maxLen

section
variable {w w' : World} {g c : Nat} {xs : List Int}
theorem OwnC.lt (h : OwnC w g c xs) : g < w.heap.size := by obtain ⟨ts, h1, -⟩ := h; exact h1.lt
theorem OwnC.cell (h : OwnC w g c xs) {i : Nat} (hi : i < xs.length) : w.cell? ⟨g, i, none⟩ = some (.int .i64 (xs.getD i 0)) := by
  obtain ⟨ts, h1, -⟩ := h
  rw [h1.cell (by simp; omega), List.getElem_append_left (by simpa using hi)]
  simp [List.getD, hi]
theorem OwnC.frozen (h : OwnC w g c xs) (i : Nat) : w.frozen? ⟨g, i, none⟩ = false := by obtain ⟨ts, h1, -⟩ := h; exact h1.frozen i
theorem OwnC.rd (h : OwnC w g c xs) : Rd w (some ⟨g, 0, none⟩) xs :=
  fun _ => ⟨g, 0, rfl, h.lt, fun i hi => by rw [Nat.zero_add]; exact h.cell hi⟩
theorem OwnC.set (h : OwnC w g c xs) (i : Nat) (hi : i < xs.length) (v : Int) : OwnC (w.setCell ⟨g, i, none⟩ (.int .i64 v)) g c (xs.set i v) := by
  obtain ⟨ts, h1, h2⟩ := h
  refine ⟨ts, ?_, by simpa using h2⟩
  have := h1.set i (.int .i64 v)
  rw [List.set_append_left _ _ (by simpa using hi), ← List.map_set] at this
  exact this
theorem OwnC.other (h : OwnC w g c xs) {p : Addr} (hp : p.block ≠ g) (u : Value) : OwnC (w.setCell p u) g c xs := by
  obtain ⟨ts, h1, h2⟩ := h; exact ⟨ts, h1.other hp u, h2⟩
theorem OwnC.below (h : OwnC w g c xs) {B : Nat} (hb : Below B w w') (hg : g < B) : OwnC w' g c xs := by
  obtain ⟨ts, h1, h2⟩ := h; exact ⟨ts, h1.below hb hg, h2⟩
theorem OwnC.alloc (h : OwnC w g c xs) (o : Obj) : OwnC (w.alloc o) g c xs := by
  obtain ⟨ts, h1, h2⟩ := h; exact ⟨ts, h1.alloc o, h2⟩
theorem OwnC.drewN (h : OwnC w g c xs) (q : Nat) : OwnC (w.drewN q) g c xs := h
theorem OwnC.kept (h : OwnC w g c xs) {r : Option Nat} (hb : w.grownBy w' r) (hg : some g ≠ r) : OwnC w' g c xs := by
  obtain ⟨ts, h1, h2⟩ := h; exact ⟨ts, h1.kept hb hg, h2⟩
theorem OwnC.owns (h : OwnC w g c xs) {B n : Nat} (hB : B ≤ g) (hn : xs.length = n) : w.ownsRow B 3 1 (.slice (some ⟨g, 0, none⟩) n c) n (xs.map (Value.int .i64)) := by
  obtain ⟨ts, h1, h2, h3⟩ := h
  subst hn
  refine ⟨by simp, .inr ⟨g, c, _, rfl, hB, h1, by omega, h3, by simp; omega, ?_⟩⟩
  simp
theorem OwnC.of {B n : Nat} {v : Value} (h : w.ownsRow B 3 1 v n (xs.map (Value.int .i64))) (hv : ¬ v = .slice none 0 0) : ∃ g c, v = .slice (some ⟨g, 0, none⟩) n c ∧ B ≤ g ∧ n ≤ c ∧ xs.length = n ∧ OwnC w g c xs := by
  obtain ⟨h1, h2⟩ := h
  rcases h2 with ⟨h2, -⟩ | ⟨g, c, cur, rfl, hB, hh, hnc, hcm, hsz, ht⟩
  · exact absurd h2 hv
  · have hl : xs.length = n := by simpa using h1
    refine ⟨g, c, rfl, hB, hnc, hl, cur.toList.drop (n * 1), ?_, ?_, hcm⟩
    · unfold OwnV
      rw [hh, ← ht, List.take_append_drop]
    · simp; omega
end

theorem owns_empty (w : World) {B g : Nat} (hB : B ≤ w.heap.size) (hg : w.heap.size = g) : (w.alloc (.cells #[] 3)).ownsRow B 3 1 (.slice (some ⟨g, 0, none⟩) 0 0) 0 [] := by
  subst hg
  exact World.ownsRow_made w #[] 0 hB (by unfold maxLen; omega) (by simp)

/-! ### The first two symbols -/

theorem fst_len {ds : List Int} {p : Nat} (h : p + 2 ≤ ds.length) : (fst ds p 2).length = 2 := by
  unfold fst; simp; omega
theorem fst_len1 {ds : List Int} {p : Nat} (h : ds.length < p + 2) : (fst ds p 2).length = ds.length - p := by
  unfold fst; simp; omega
theorem rd_fst {v : World} {b off : Nat} {ds : List Int} (p h : Nat) (hv : Rd v (some ⟨b, off, none⟩) ds) : Rd v (some ⟨b, off + p, none⟩) (fst ds p h) := (hv.drop p).take h

set_option maxHeartbeats 800000 in
theorem pairAt_any (s : ByteArray) (b off cd ld : Nat) (fs : Value) (ds : List Int) (p : Nat) (w : World) (hl : ds.length ≤ 1073741822) (hcap : ds.length ≤ cd) (hp : p < ds.length) (hld : ds.length = ld) :
    Calls Try.prog 117 #[.agg #[.string s, .slice (some ⟨b, off, none⟩) ld cd, fs], .int .i64 p] w fun e w' => ∃ c, e = .returned (.slice (some ⟨b, off + p, none⟩) (fst ds p 2).length c) ∧ Below w.heap.size w w' := by
  subst hld
  by_cases h2 : ds.length < p + 2
  · have HL := Hid.mk' (fst_len1 h2)
    go_enter Try.func117, Try.ntmps117
    go_wp2
    go_ret
    exact ⟨_, ret_slice (by rw [HL.out]), (Below.refl _ _).alloc (Nat.le_refl _) _⟩
  · have HL := Hid.mk' (fst_len (ds := ds) (p := p) (by omega))
    go_enter Try.func117, Try.ntmps117
    go_wp2
    go_ret
    exact ⟨_, ret_slice (by rw [HL.out]; omega), (Below.refl _ _).alloc (Nat.le_refl _) _⟩

/-- What a cell below held before a call that drew once it holds behind it. -/
theorem keep_cell {w w2 : World} {b o : Nat} {v : Value} (hb : Below w.drew.heap.size w.drew w2) (h : b < w.heap.size) (hc : w.cell? ⟨b, o, none⟩ = some v) : w2.cell? ⟨b, o, none⟩ = some v :=
  ((bcell hb).1 b o h).trans hc
theorem made_row_at {w w0 : World} {n g : Nat} (hgg : w.heap.size = g) (h : w0.ownsRow g 3 1 (.slice (some ⟨g, 0, none⟩) n n) n (madeCells #[Value.int .i64 0] n).toList) (hg : w.grownBy w0 none) :
    Own w0 g (List.replicate n 0) ∧ Below g w w0 ∧ g < w0.heap.size := by
  subst hgg; exact made_row h hg

set_option maxHeartbeats 1600000 in
set_option maxRecDepth 100000 in
theorem countLesserPairs_any (s : ByteArray) (ad : Option Addr) (cd ld gs ls : Nat) (ds : List Int) (p : Nat) (w : World) (hd : Rd w ad ds) (hl : ds.length ≤ 1073741822) (hcap : ds.length ≤ cd) (hp : p < ds.length) (hld : ds.length = ld) (r : Nat) (hv : rk ds 2 p = r) :
    Calls Try.prog 114 #[.agg #[.string s, .slice ad ld cd, .slice (some ⟨gs, 0, none⟩) ls ls], .int .i64 p] w fun e w' => e = .returned (.int .i64 r) ∧ Below w.heap.size w w' := by
  subst hld
  have HR := Hid.mk' hv
  clear hv
  obtain ⟨b, off, rfl, hb, hc⟩ := hd.at hp
  clear hc
  go_enter Try.func114, Try.ntmps114
  go_wp2_with fail
  refine (pairAt_any s b off cd _ _ ds p _ hl hcap hp rfl).mono ?_
  rintro e w1 ⟨c, rfl, hb1⟩
  have hsz : ∀ o, (w.alloc o).heap.size = w.heap.size + 1 := fun o => by simp
  rw [hsz] at hb1
  have HV1 := Hid.mk' (OwnV.below (owned_alloc w _ _) hb1 (Nat.lt_succ_self _))
  have HB1 := Hid.mk' (((Below.refl w.heap.size w).alloc (Nat.le_refl _) _).trans (hb1.mono (Nat.le_succ _)))
  clear hb1
  go_wp2
  go_loopw [6, 7] (fun k i wr => ∃ n z : Nat, n ≤ ds.length ∧ z ≤ n ∧ k = .int .i64 z ∧ i = .int .i64 n ∧ Hid (z = rkTo ds 2 p n) ∧ Hid (OwnV wr w.heap.size 89 [.string s, .slice (some ⟨b, off, none⟩) ds.length cd, .slice (some ⟨gs, 0, none⟩) ls ls]) ∧ Hid (Below w.heap.size w wr)) (fun _ i _ => ds.length - (intOf i).toNat)
  case atStart => exact ⟨0, 0, Nat.zero_le _, Nat.le_refl _, rfl, rfl, rfl, HV1, HB1⟩
  case round =>
    clear HV1 HB1
    obtain ⟨n, z, hn, hz, rfl, rfl, HN, HV, HB⟩ := hrel
    have hf0 := HV.out.cell (i := 0) (by simp)
    have hf1 := HV.out.cell (i := 1) (by simp)
    have hf2 := HV.out.cell (i := 2) (by simp)
    simp only [List.getElem_cons_zero, List.getElem_cons_succ] at hf0 hf1 hf2
    by_cases hlt : n < ds.length
    · cases he : lt (fst ds n 2) (fst ds p 2) with
      | true =>
        have HC := Hid.mk' ((rkTo_yes he).trans (by rw [← HN.out]))
        have HE := Hid.mk' he
        clear he
        go_wp2_with fail
        refine (pairAt_any s b off cd _ _ ds n _ hl hcap hlt rfl).mono ?_
        rintro e w2 ⟨c2, rfl, hb2⟩
        have hbb := HB.out.trans (hb2.mono HB.out.size)
        have hd2 := hd.below hbb
        have hv2 := HV.out.below hb2 HV.out.lt
        go_wp2_with fail
        refine (lesser_lens _ _ _ _ _ _ _ (rd_fst n 2 hd2) (rd_fst p 2 hd2) (by have := fst_le ds n 2; omega) true HE.out).mono ?_
        rintro e w3 ⟨rfl, q, rfl⟩
        have R := Hid.mk' (And.intro (hv2.drewN q) (below_drewN hbb q))
        clear hbb hd2 hv2 hb2 hf0 hf1 hf2
        go_wp2
        go_roundw
        case rel => exact ⟨n + 1, z + 1, by omega, by omega, by go_num, by go_num, HC.out.symm, R.out.1, R.out.2⟩
        case measure => simp [intOf]; omega
      | false =>
        have HC := Hid.mk' ((rkTo_no he).trans HN.out.symm)
        have HE := Hid.mk' he
        clear he
        go_wp2_with fail
        refine (pairAt_any s b off cd _ _ ds n _ hl hcap hlt rfl).mono ?_
        rintro e w2 ⟨c2, rfl, hb2⟩
        have hbb := HB.out.trans (hb2.mono HB.out.size)
        have hd2 := hd.below hbb
        have hv2 := HV.out.below hb2 HV.out.lt
        go_wp2_with fail
        refine (lesser_lens _ _ _ _ _ _ _ (rd_fst n 2 hd2) (rd_fst p 2 hd2) (by have := fst_le ds n 2; omega) false HE.out).mono ?_
        rintro e w3 ⟨rfl, q, rfl⟩
        have R := Hid.mk' (And.intro (hv2.drewN q) (below_drewN hbb q))
        clear hbb hd2 hv2 hb2 hf0 hf1 hf2
        go_wp2
        go_roundw
        case rel => exact ⟨n + 1, z, by omega, by omega, by go_num, by go_num, HC.out.symm, R.out.1, R.out.2⟩
        case measure => simp [intOf]; omega
    · have HF : Hid ((z : Int) = (r : Int)) := by
        rw [Hid, HN.out, ← HR.out, show n = ds.length by omega, rkTo_all]
      go_wp2
      go_ret
      exact ⟨ret_int HF.out, HB.out⟩

set_option maxHeartbeats 1600000 in
set_option maxRecDepth 100000 in
theorem countSamePairs_any (s : ByteArray) (ad at' : Option Addr) (cd ld ct lt' gs ls : Nat) (ds ts : List Int) (p : Nat) (w : World) (hd : Rd w ad ds) (ht : Rd w at' ts) (hl : ds.length ≤ 1073741822) (hlt' : ts.length ≤ 1073741822) (hcap : ds.length ≤ cd) (hp : p < ds.length) (hin : ∀ x ∈ ts, 0 ≤ x ∧ x < ds.length) (hlen : ts.length = lt') (hld : ds.length = ld) (r : Nat) (hv : ts.countP (fun q => fst ds q.toNat 2 == fst ds p 2) = r) :
    Calls Try.prog 115 #[.agg #[.string s, .slice ad ld cd, .slice (some ⟨gs, 0, none⟩) ls ls], .slice at' lt' ct, .int .i64 p] w fun e w' => e = .returned (.int .i64 r) ∧ Below w.heap.size w w' := by
  subst hlen; subst hld
  have HR := Hid.mk' hv
  have HIn := Hid.mk' hin
  clear hv hin
  obtain ⟨b, off, rfl, hb, hc⟩ := hd.at hp
  clear hc
  go_enter Try.func115, Try.ntmps115
  go_wp2_with fail
  refine (pairAt_any s b off cd _ _ ds p _ hl hcap hp rfl).mono ?_
  rintro e w1 ⟨c, rfl, hb1⟩
  have hsz : ∀ o, (w.alloc o).heap.size = w.heap.size + 1 := fun o => by simp
  rw [hsz] at hb1
  have HV1 := Hid.mk' (OwnV.below (owned_alloc w _ _) hb1 (Nat.lt_succ_self _))
  have HB1 := Hid.mk' (((Below.refl w.heap.size w).alloc (Nat.le_refl _) _).trans (hb1.mono (Nat.le_succ _)))
  clear hb1
  go_wp2
  go_loopw [8, 9] (fun k i wr => ∃ n z : Nat, n ≤ ts.length ∧ z ≤ n ∧ k = .int .i64 z ∧ i = .int .i64 n ∧ Hid (z = cP ts (fun q => fst ds q.toNat 2 == fst ds p 2) n) ∧ Hid (OwnV wr w.heap.size 89 [.string s, .slice (some ⟨b, off, none⟩) ds.length cd, .slice (some ⟨gs, 0, none⟩) ls ls]) ∧ Hid (Below w.heap.size w wr)) (fun _ i _ => ts.length - (intOf i).toNat)
  case atStart => exact ⟨0, 0, Nat.zero_le _, Nat.le_refl _, rfl, rfl, by simp [Hid, cP], HV1, HB1⟩
  case round =>
    clear HV1 HB1
    obtain ⟨n, z, hn, hz, rfl, rfl, HN, HV, HB⟩ := hrel
    by_cases hlt : n < ts.length
    · have hf0 := HV.out.cell (i := 0) (by simp)
      have hf1 := HV.out.cell (i := 1) (by simp)
      have hf2 := HV.out.cell (i := 2) (by simp)
      simp only [List.getElem_cons_zero, List.getElem_cons_succ] at hf0 hf1 hf2
      have hA := HIn.out _ (getD_mem hlt)
      obtain ⟨bt, ot, rfl, hbt, hct0⟩ := ht.at hlt
      have hct := (ht.below HB.out).cell hlt
      obtain ⟨t, htt⟩ : ∃ t : Nat, ts.getD n 0 = t := ⟨(ts.getD n 0).toNat, by omega⟩
      rw [htt] at hct
      have htx : t < ds.length := by omega
      have hP : (fun q : Int => fst ds q.toNat 2 == fst ds p 2) (ts.getD n 0) = (fst ds t 2 == fst ds p 2) := by rw [htt]; rfl
      have hvl := HV.out.lt
      have hbt' : bt < wr.heap.size := by have := HB.out.size; omega
      clear hct0 hA htt
      cases he : (fst ds t 2 == fst ds p 2) with
      | true =>
        have HC := Hid.mk' ((cP_yes hlt (hP.trans he)).trans (by rw [← HN.out]))
        have HE := Hid.mk' he
        clear he hP
        go_wp2
        go_region_held3 (fun w' => w'.cell? ⟨w.heap.size, 0, none⟩ = some (.string s) ∧ w'.cell? ⟨w.heap.size, 1, none⟩ = some (.slice (some ⟨b, off, none⟩) ds.length cd) ∧ w'.cell? ⟨w.heap.size, 2, none⟩ = some (.slice (some ⟨gs, 0, none⟩) ls ls) ∧ w'.cell? ⟨bt, ot + n, none⟩ = some (.int .i64 t)) (go_keep) ((go_at_call 117; refine (pairAt_any s b off cd _ _ ds t _ hl hcap htx rfl).mono ?_; rintro e w2 ⟨c2, rfl, hb2⟩; have hk0 := keep_cell hb2 hvl hf0; have hk1 := keep_cell hb2 hvl hf1; have hk2 := keep_cell hb2 hvl hf2; have hk3 := keep_cell hb2 hbt' hct))
        have hbb := HB.out.drew.trans (hb2.mono HB.out.size)
        have hd2 := hd.below hbb
        have hv2 : OwnV w2 w.heap.size 89 _ := OwnV.below (w := _) (by exact HV.out) hb2 HV.out.lt
        have hl1 := fst_le ds t 2
        have hl2 := fst_le ds p 2
        go_wp2_with fail
        refine (textsSame_lens _ _ _ _ _ _ _ _ _ (rd_fst t 2 hd2) (rd_fst p 2 hd2) (by unfold maxLen; omega) (by unfold maxLen; omega) rfl rfl true HE.out).mono ?_
        rintro e w3 ⟨rfl, q, rfl⟩
        have R := Hid.mk' (And.intro (hv2.drewN q) (below_drewN hbb q))
        clear hbb hd2 hv2 hb2 hf0 hf1 hf2 hk0 hk1 hk2 hk3
        go_wp2
        go_roundw
        case rel => exact ⟨n + 1, z + 1, by omega, by omega, by go_num, by go_num, HC.out.symm, R.out.1, R.out.2⟩
        case measure => simp [intOf]; omega
      | false =>
        have HC := Hid.mk' ((cP_no hlt (hP.trans he)).trans HN.out.symm)
        have HE := Hid.mk' he
        clear he hP
        go_wp2
        go_region_held3 (fun w' => w'.cell? ⟨w.heap.size, 0, none⟩ = some (.string s) ∧ w'.cell? ⟨w.heap.size, 1, none⟩ = some (.slice (some ⟨b, off, none⟩) ds.length cd) ∧ w'.cell? ⟨w.heap.size, 2, none⟩ = some (.slice (some ⟨gs, 0, none⟩) ls ls) ∧ w'.cell? ⟨bt, ot + n, none⟩ = some (.int .i64 t)) (go_keep) ((go_at_call 117; refine (pairAt_any s b off cd _ _ ds t _ hl hcap htx rfl).mono ?_; rintro e w2 ⟨c2, rfl, hb2⟩; have hk0 := keep_cell hb2 hvl hf0; have hk1 := keep_cell hb2 hvl hf1; have hk2 := keep_cell hb2 hvl hf2; have hk3 := keep_cell hb2 hbt' hct))
        have hbb := HB.out.drew.trans (hb2.mono HB.out.size)
        have hd2 := hd.below hbb
        have hv2 : OwnV w2 w.heap.size 89 _ := OwnV.below (w := _) (by exact HV.out) hb2 HV.out.lt
        have hl1 := fst_le ds t 2
        have hl2 := fst_le ds p 2
        go_wp2_with fail
        refine (textsSame_lens _ _ _ _ _ _ _ _ _ (rd_fst t 2 hd2) (rd_fst p 2 hd2) (by unfold maxLen; omega) (by unfold maxLen; omega) rfl rfl false HE.out).mono ?_
        rintro e w3 ⟨rfl, q, rfl⟩
        have R := Hid.mk' (And.intro (hv2.drewN q) (below_drewN hbb q))
        clear hbb hd2 hv2 hb2 hf0 hf1 hf2 hk0 hk1 hk2 hk3
        go_wp2
        go_roundw
        case rel => exact ⟨n + 1, z, by omega, by omega, by go_num, by go_num, HC.out.symm, R.out.1, R.out.2⟩
        case measure => simp [intOf]; omega
    · have HF : Hid ((z : Int) = (r : Int)) := by
        rw [Hid, HN.out, cP_all (by omega), HR.out]
      go_wp2
      go_ret
      exact ⟨ret_int HF.out, HB.out⟩

/-! ### The turns are laid -/

theorem free_take {ds : List Int} {k n : Nat} (hk : k < n) (hl : ds.length = n) (h : ds.take k = List.replicate k (-1)) : (ds.set k (-1)).take (k + 1) = List.replicate (k + 1) (-1) := by
  rw [List.take_add_one, List.getElem?_set_self (by omega), List.take_set_of_le (Nat.le_refl _), h, List.replicate_succ']
  rfl

set_option maxHeartbeats 3200000 in
set_option maxRecDepth 100000 in
theorem layTurns_any (s : ByteArray) (ad at' : Option Addr) (cd ct gs ls : Nat) (xs L : List Int) (w : World) (hO : Ord xs L) (hd : Rd w ad (dense xs)) (ht : Rd w at' (oT xs L)) (hl : xs.length ≤ 1073741822) (hcap : xs.length ≤ cd) (hct : (oT xs L).length ≤ ct) :
    Calls Try.prog 108 #[.agg #[.string s, .slice ad xs.length cd, .slice (some ⟨gs, 0, none⟩) ls ls], .slice at' (oT xs L).length ct] w fun e w' => ∃ g arr, e = .returned (.slice (some ⟨g, 0, none⟩) xs.length xs.length) ∧ w.heap.size ≤ g ∧ Own w' g arr ∧ Got xs L (isTurn xs) arr ∧ Below w.heap.size w w' := by
  obtain ⟨i0, hi, hz0, hz1, hz2⟩ := info_parts Try.info3
  have HOr := Hid.mk' hO
  have HDL := Hid.mk' (dense_length xs)
  have htl : (oT xs L).length ≤ xs.length := turnsTo_length_le xs L xs.length
  have hml : xs.length ≤ maxLen := by unfold maxLen; omega
  clear hO
  go_enter Try.func108, Try.ntmps108
  go_wp2_with (at_make; refine wpList_make_full _ rfl _ _ 22 rfl _ 3 i0 (.int .i64 0) 1 Try.underlying22 hi hz0 hz1 _ _ _ _ xs.length rfl rfl (by omega) (by omega) ?b2 hml (Nat.le_refl _) ?_)
  case b2 => rw [hz2]; omega
  intro w2 hown0 hgrow0
  obtain ⟨ho, hb2, hs2⟩ := made_row_at (by simp) hown0 hgrow0
  have hv2 := OwnV.below (owned_alloc w _ _) hb2 (Nat.lt_succ_self _)
  have hb02 := ((Below.refl w.heap.size w).alloc (Nat.le_refl _) _).trans (hb2.mono (Nat.le_succ _))
  have HH := Hid.mk' (And.intro ho (And.intro hv2 hb02))
  clear hown0 hgrow0 ho hb2 hs2 hv2 hb02
  go_wp2
  go_loopw [6] (fun i wr => ∃ (k : Nat) (ds : List Int), k ≤ xs.length ∧ i = .int .i64 k ∧ Hid (ds.length = xs.length) ∧ Hid (ds.take k = List.replicate k (-1)) ∧ Hid (Own wr (w.heap.size + 1) ds) ∧ Hid (OwnV wr w.heap.size 89 [.string s, .slice ad xs.length cd, .slice (some ⟨gs, 0, none⟩) ls ls]) ∧ Hid (Below w.heap.size w wr)) (fun i _ => xs.length - (intOf i).toNat)
  case atStart => exact ⟨0, _, Nat.zero_le _, rfl, by simp [Hid], rfl, HH.out.1, HH.out.2.1, HH.out.2.2⟩
  case round =>
    clear HH
    obtain ⟨k, ds, hk, rfl, HL, HT, HO, HV, HB⟩ := hrel
    by_cases hlt : k < xs.length
    · obtain ⟨u, hcell⟩ : ∃ u, wr.cell? ⟨w.heap.size + 1, k, none⟩ = some u := ⟨_, HO.out.cell (by rw [HL.out]; exact hlt)⟩
      have hfz := HO.out.frozen k
      have HS := Hid.mk' (free_take hlt HL.out HT.out)
      go_wp2
      go_roundw
      case rel => exact ⟨k + 1, _, by omega, by go_num, by rw [Hid, List.length_set]; exact HL.out, HS, HO.out.set k _, HV.out.other (by show w.heap.size + 1 ≠ w.heap.size; omega) _, HB.out.setCell (by show w.heap.size ≤ w.heap.size + 1; omega) _⟩
      case measure => simp [intOf]; omega
    · have HE : Hid (ds = List.replicate xs.length (-1)) := by
        have h1 := HT.out
        rw [List.take_of_length_le (by rw [HL.out]; omega), show k = xs.length by omega] at h1
        exact h1
      go_wp2
      go_loopw [7] (fun i wq => ∃ (n : Nat) (arr : List Int), n ≤ (oT xs L).length ∧ i = .int .i64 n ∧ Hid (LayT xs L n arr) ∧ Hid (Own wq (w.heap.size + 1) arr) ∧ Hid (OwnV wq w.heap.size 89 [.string s, .slice ad xs.length cd, .slice (some ⟨gs, 0, none⟩) ls ls]) ∧ Hid (Below w.heap.size w wq)) (fun i _ => (oT xs L).length - (intOf i).toNat)
      case atStart => exact ⟨0, _, Nat.zero_le _, rfl, LayT.start, by rw [← HE.out]; exact HO.out, HV, HB⟩
      case round =>
        clear HL HT HO HV HB HE
        obtain ⟨n, arr, hn, rfl, HLay, HO, HV, HB⟩ := hrel
        by_cases hlt2 : n < (oT xs L).length
        · obtain ⟨p, hp, hpx, -⟩ := oT_at HOr.out hlt2
          have hz := lay_place HOr.out hlt2 hp
          have HS := Hid.mk' (LayT.lay HOr.out HLay.out hlt2 hp)
          have hzl := ps_lt HOr.out hpx
          obtain ⟨z, hzz⟩ : ∃ z, ps L p = z := ⟨_, rfl⟩
          obtain ⟨r1, hr1⟩ : ∃ r, rk xs 2 p = r := ⟨_, rfl⟩
          obtain ⟨r2, hr2⟩ : ∃ r, cP (oT xs L) (fun q => fst xs q.toNat 2 == fst xs p 2) n = r := ⟨_, rfl⟩
          rw [hzz, hr1, hr2] at hz
          rw [Hid, hzz] at HS
          rw [hzz] at hzl
          have HR1 : Hid (rk (dense xs) 2 p = r1) := by rw [Hid, rk_dense, hr1]
          have HR2 : Hid (((oT xs L).take n).countP (fun q => fst (dense xs) q.toNat 2 == fst (dense xs) p 2) = r2) := by
            rw [Hid, ← hr2]
            unfold cP
            exact List.countP_congr (fun q _ => by rw [same_dense])
          have hzi : (r1 : Int) + (r2 : Int) = (z : Int) := by omega
          have h1b : r1 ≤ xs.length := by omega
          have h2b : r2 ≤ xs.length := by omega
          have hpd : p < (dense xs).length := by rw [HDL.out]; exact hpx
          have HPD := Hid.mk' hpd
          have HIn : Hid (∀ x ∈ (oT xs L).take n, 0 ≤ x ∧ x < (dense xs).length) := fun x hx => by
            rw [HDL.out]; exact ((mem_oT HOr.out).1 (List.mem_of_mem_take hx)).1
          have HTL : Hid (((oT xs L).take n).length = n) := by rw [Hid, List.length_take]; omega
          have HAL : Hid (arr.length = xs.length) := HLay.out.len
          obtain ⟨bt, ot, rfl, hbt, hct0⟩ := ht.at hlt2
          have hct1 := (ht.below HB.out).cell hlt2
          rw [hp] at hct1
          have hf0 := HV.out.cell (i := 0) (by simp)
          have hf1 := HV.out.cell (i := 1) (by simp)
          have hf2 := HV.out.cell (i := 2) (by simp)
          simp only [List.getElem_cons_zero, List.getElem_cons_succ] at hf0 hf1 hf2
          have HD := Hid.mk' (hd.below HB.out)
          have HTk := Hid.mk' ((ht.below HB.out).take n)
          have hvl := HV.out.lt
          have hol := HO.out.lt
          have hbt' : bt < wr.heap.size := by omega
          clear hct0 hp hzz hr1 hr2 hz hpd
          go_wp2
          go_region_held3 (fun w' => w'.cell? ⟨w.heap.size, 0, none⟩ = some (.string s) ∧ w'.cell? ⟨w.heap.size, 1, none⟩ = some (.slice ad xs.length cd) ∧ w'.cell? ⟨w.heap.size, 2, none⟩ = some (.slice (some ⟨gs, 0, none⟩) ls ls) ∧ w'.cell? ⟨bt, ot + n, none⟩ = some (.int .i64 p)) (go_keep) ((go_at_call 114; refine (countLesserPairs_any s ad cd xs.length gs ls (dense xs) p _ (by exact HD.out) (by rw [HDL.out]; omega) (by rw [HDL.out]; omega) HPD.out HDL.out r1 HR1.out).mono ?_; rintro e w3 ⟨rfl, hb3⟩; have hk0 := keep_cell hb3 hvl hf0; have hk1 := keep_cell hb3 hvl hf1; have hk2 := keep_cell hb3 hvl hf2; have hk3 := keep_cell hb3 hbt' hct1))
          have H3 : Hid (Own w3 (w.heap.size + 1) arr ∧ OwnV w3 w.heap.size 89 [.string s, .slice ad xs.length cd, .slice (some ⟨gs, 0, none⟩) ls ls] ∧ Below w.heap.size w w3) := ⟨Own.below (w := _) (by exact HO.out) hb3 hol, OwnV.below (w := _) (by exact HV.out) hb3 hvl, HB.out.drew.trans (hb3.mono HB.out.size)⟩
          have HD3 := Hid.mk' (hd.below H3.out.2.2)
          have HTk3 := Hid.mk' ((ht.below H3.out.2.2).take n)
          have hvl3 := H3.out.2.1.lt
          have hol3 := H3.out.1.lt
          have hbt3 : bt < w3.heap.size := by omega
          clear hf0 hf1 hf2 hct1 hb3 HD HTk HB HV HO
          have z1 : (0 : Int) ≤ (n : Int) := by omega
          have z2 : (n : Int) ≤ (ct : Int) := by omega
          have z3 : (n : Int) < ((oT xs L).length : Int) := by omega
          have z4 : n ≤ ct := by omega
          go_wp2
          go_region_held3 (fun w' => w'.cell? ⟨w.heap.size, 0, none⟩ = some (.string s) ∧ w'.cell? ⟨w.heap.size, 1, none⟩ = some (.slice ad xs.length cd) ∧ w'.cell? ⟨w.heap.size, 2, none⟩ = some (.slice (some ⟨gs, 0, none⟩) ls ls) ∧ w'.cell? ⟨bt, ot + n, none⟩ = some (.int .i64 p)) (go_keep) ((go_at_call 115; refine (countSamePairs_any s ad (some ⟨bt, ot, none⟩) cd xs.length ct n gs ls (dense xs) ((oT xs L).take n) p _ (by exact HD3.out) (by exact HTk3.out) (by rw [HDL.out]; omega) (by rw [HTL.out]; omega) (by rw [HDL.out]; omega) HPD.out HIn.out HTL.out HDL.out r2 HR2.out).mono ?_; rintro e w4 ⟨rfl, hb4⟩; have hj0 := keep_cell hb4 hvl3 hk0; have hj1 := keep_cell hb4 hvl3 hk1; have hj2 := keep_cell hb4 hvl3 hk2; have hj3 := keep_cell hb4 hbt3 hk3))
          have H4 : Hid (Own w4 (w.heap.size + 1) arr ∧ OwnV w4 w.heap.size 89 [.string s, .slice ad xs.length cd, .slice (some ⟨gs, 0, none⟩) ls ls] ∧ Below w.heap.size w w4) := ⟨Own.below (w := _) (by exact H3.out.1) hb4 hol3, OwnV.below (w := _) (by exact H3.out.2.1) hb4 hvl3, H3.out.2.2.drew.trans (hb4.mono H3.out.2.2.size)⟩
          obtain ⟨u, hcell⟩ : ∃ u, w4.cell? ⟨w.heap.size + 1, z, none⟩ = some u := ⟨_, H4.out.1.cell (by rw [HAL.out]; exact hzl)⟩
          have hfz := H4.out.1.frozen z
          have n1 : bt ≠ w.heap.size + 1 := by omega
          have n2 : w.heap.size + 1 ≠ bt := by omega
          clear hk0 hk1 hk2 hk3 hj0 hj1 hj2 hb4 H3 HD3 HTk3
          go_wp2
          go_roundw
          case rel => exact ⟨n + 1, _, by omega, by go_num, HS, H4.out.1.set z _, H4.out.2.1.other (by show w.heap.size + 1 ≠ w.heap.size; omega) _, H4.out.2.2.setCell (by show w.heap.size ≤ w.heap.size + 1; omega) _⟩
          case measure => simp [intOf]; omega
        · have HD := Hid.mk' (LayT.done HOr.out HLay.out (by omega))
          go_wp2
          go_ret
          exact ⟨_, arr, rfl, by omega, HO.out, HD.out, HB.out⟩

end Go.Proofs.Ytdhehffdddbmbaa
