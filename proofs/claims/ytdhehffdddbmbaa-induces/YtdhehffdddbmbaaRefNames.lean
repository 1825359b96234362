/-
  RefNames: the walks of the document's own Marks, Names, Levels, Turns.
-/
import Derived.Test.YtdhehffdddbmbaaRefRanks
import Derived.Test.YtdhehffdddbmbaaMMarks
import Derived.Maps.AppendAt
namespace Go.Proofs.Ytdhehffdddbmbaa
open Go.RowKit

theorem kd_small (xs : List Int) (i : Nat) : kd xs i = 76 ∨ kd xs i = 77 ∨ kd xs i = 83 := by
  unfold kd; split
  · exact .inl rfl
  · split
    · exact .inr (.inl rfl)
    · exact .inr (.inr rfl)

/-- The string of the kinds, as a string that is looked into. -/
theorem kinds_string (xs : List Int) : (strOfNums (kindsL xs)).size = xs.length ∧ ∀ i (h : i < (strOfNums (kindsL xs)).size), ((strOfNums (kindsL xs))[i].toNat : Int) = kd xs i := by
  refine ⟨by rw [strOfNums_size, kindsL_length], fun i h => ?_⟩
  have hl : i < xs.length := by rwa [strOfNums_size, kindsL_length] at h
  have : (strOfNums (kindsL xs))[i] = UInt8.ofNat (kd xs i).toNat := by
    show (strOfNums (kindsL xs)).data[i] = _
    simp [strOfNums, kindsL]
  rw [this]
  rcases kd_small xs i with e | e | e <;> rw [e] <;> rfl

set_option maxHeartbeats 1600000 in
set_option maxRecDepth 100000 in
theorem refMarks_any (a : Option Addr) (cap : Nat) (xs : List Int) (w : World) (hr : Rd w a xs) (hl : xs.length ≤ 1073741823) (hcap : xs.length ≤ cap) (hcap' : cap ≤ 9223372036854775807) :
    Calls Try.prog 39 #[.slice a xs.length cap] w fun e w' => ∃ r, e = .returned r ∧ w'.ownsRow w.heap.size 3 1 r (marks xs).length ((marks xs).map (Value.int .i64)) ∧ Below w.heap.size w w' := by
  obtain ⟨i0, hi, hz0, hz1, hz2⟩ := info_parts Try.info3
  obtain ⟨hsz, hby⟩ := kinds_string xs
  go_enter Try.func39, Try.ntmps39
  go_wp2_with fail
  refine (refKinds_any _ _ xs _ hr (by omega) hcap hcap').mono ?_
  rintro e w1 ⟨rfl, hb1⟩
  generalize strOfNums (kindsL xs) = s at hsz hby ⊢
  have HSZ := Hid.mk' hsz
  have HBY := Hid.mk' hby
  have hsl : s.size ≤ 1073741823 := by omega
  clear hsz hby
  go_wp2
  go_loopw [4, 5] (fun out i wr => ∃ n : Nat, n ≤ s.size ∧ i = .int .i64 n ∧ wr.ownsRow w.heap.size 3 1 out (marksTo xs n).length ((marksTo xs n).map (Value.int .i64)) ∧ Below w.heap.size w wr) (fun _ i _ => s.size - (intOf i).toNat)
  case atStart => exact ⟨0, Nat.zero_le _, rfl, World.ownsRow_nil _ _ _ _, hb1⟩
  case round =>
    obtain ⟨n, hn, rfl, hown, hbr⟩ := hrel
    have hsz := hbr.size
    have hle := marksTo_length_le xs n
    by_cases hlt : n < s.size
    · have hk := HBY.out n hlt
      have hsucc := marksTo_succ xs n
      cases hm : isMark xs n with
      | true =>
        rw [hm, if_pos rfl] at hsucc
        have HS := Hid.mk' hsucc
        have hbe : ((s[n].toNat : Int) == 77) = true := by
          have : kd xs n = 77 := by simpa [isMark] using hm
          rw [hk, this]; rfl
        clear hk hsucc hm
        go_wp2_with (at_builtin; refine wpList_append_own _ rfl _ _ 22 rfl w.heap.size 3 i0 (.int .i64 0) 1 8 Try.underlying22 hi hz0 hz1 hz2 rfl (by decide) _ _ _ rfl (hown.alloc _) ⟨wr.heap.size, 0, none⟩ 1 1 [.int .i64 (n : Int)] rfl rfl (by intro t u ht; match t, ht with | 0, ht => simp at ht; subst ht; simp [Addr.add]) (by intro u hu; simp at hu; subst hu; rfl) (by unfold maxLen; omega) (by omega) (by simp; omega) ?_; intro v' w3 hown' hgrow _)
        have R := Hid.mk' (And.intro hown' (owns_grow hown hbr _ hgrow))
        clear hown' hgrow hown hbr
        go_wp2
        go_roundw
        case rel => exact ⟨n + 1, by omega, by go_num, by rw [HS.out, List.map_append, List.length_append]; exact R.out.1, R.out.2⟩
        case measure => simp [intOf]; omega
      | false =>
        rw [hm, if_neg (by simp), List.append_nil] at hsucc
        have HS := Hid.mk' hsucc
        have hbe : ((s[n].toNat : Int) == 77) = false := by
          have : ¬ kd xs n = 77 := by simpa [isMark] using hm
          rw [hk]; simpa using this
        clear hk hsucc hm
        go_wp2
        go_roundw
        case rel => exact ⟨n + 1, by omega, by go_num, by rw [HS.out]; exact hown, hbr⟩
        case measure => simp [intOf]; omega
    · have he : marksTo xs n = marks xs := by unfold marks; rw [show n = xs.length by have := HSZ.out; omega]
      rw [he] at hown
      have R := Hid.mk' (And.intro hown hbr)
      clear he hown hbr
      go_wp2
      go_ret
      exact ⟨_, rfl, R.out.1, R.out.2⟩

theorem dense_getD (xs : List Int) (j : Nat) (hj : j < xs.length) : ∃ D : Nat, (dense xs).getD j 0 = D ∧ D ≤ xs.length := by
  refine ⟨cl (dis xs) xs[j], by simp [dense, List.getD, hj], Nat.le_trans (cl_le _ _) (dis_length_le _)⟩

theorem pieceTo_length (xs : List Int) (p n : Nat) : (pieceTo xs p n).length = n := by simp [pieceTo]

set_option maxHeartbeats 1600000 in
set_option maxRecDepth 100000 in
theorem piece_any (a : Option Addr) (cap : Nat) (xs : List Int) (s : ByteArray) (p q : Nat) (w : World) (hr : Rd w a (dense xs)) (hl : xs.length ≤ 1073741823) (hsz : s.size = xs.length) (hby : ∀ i (h : i < s.size), (s[i].toNat : Int) = kd xs i) (hpq : p ≤ q) (hp : p < xs.length) (hq : q ≤ xs.length) :
    Calls Try.prog 91 #[.slice a xs.length cap, .string s, .int .i64 p, .int .i64 q] w fun e w' => ∃ r, e = .returned r ∧ w'.ownsRow w.heap.size 3 1 r (piece xs p q).length ((piece xs p q).map (Value.int .i64)) ∧ Below w.heap.size w w' := by
  obtain ⟨i0, hi, hz0, hz1, hz2⟩ := info_parts Try.info3
  have HSZ := Hid.mk' hsz
  have HBY := Hid.mk' hby
  have hsl : xs.length ≤ s.size := by omega
  clear hsz hby
  go_enter Try.func91, Try.ntmps91
  go_wp2
  go_loopw [9, 10] (fun out i wr => ∃ j : Nat, p ≤ j ∧ j ≤ q + 1 ∧ j ≤ xs.length ∧ i = .int .i64 j ∧ wr.ownsRow w.heap.size 3 1 out (j - p) ((pieceTo xs p (j - p)).map (Value.int .i64)) ∧ Below w.heap.size w wr) (fun _ i _ => xs.length - (intOf i).toNat)
  case atStart => exact ⟨p, Nat.le_refl _, by omega, by omega, rfl, by rw [Nat.sub_self]; exact World.ownsRow_nil _ _ _ _, Below.refl _ _⟩
  case round =>
    obtain ⟨j, hpj, hjq, hjl, rfl, hown, hbr⟩ := hrel
    have hsz := hbr.size
    by_cases hlt : j ≤ q ∧ j < xs.length
    · obtain ⟨hj1, hj2⟩ := hlt
      have hjs : j < s.size := by omega
      have hk := HBY.out j hjs
      have hrd := hr.below hbr
      have hjd : j < (dense xs).length := by rw [dense_length]; exact hj2
      obtain ⟨D, hD, hDl⟩ := dense_getD xs j hj2
      obtain ⟨b, off, rfl, hb, hc⟩ := hrd.at hjd
      have hc1 := hc j hjd
      rw [hD] at hc1
      have hsucc : pieceTo xs p (j + 1 - p) = pieceTo xs p (j - p) ++ [2 * (D : Int) + if kd xs j = 76 then 0 else 1] := by
        rw [show j + 1 - p = (j - p) + 1 by omega, pieceTo_succ, show p + (j - p) = j by omega]
        unfold code; rw [hD]
      clear hc hrd hD hjd
      by_cases hL : kd xs j = 76
      · rw [if_pos hL, Int.add_zero] at hsucc
        have HS := Hid.mk' hsucc
        have hbe : ((s[j].toNat : Int) != 76) = false := by rw [hk, hL]; rfl
        clear hk hsucc hL
        go_wp2_with (at_builtin; refine wpList_append_own _ rfl _ _ 22 rfl w.heap.size 3 i0 (.int .i64 0) 1 8 Try.underlying22 hi hz0 hz1 hz2 rfl (by decide) _ _ _ rfl (hown.alloc _) ⟨wr.heap.size, 0, none⟩ 1 1 [.int .i64 (2 * (D : Int))] rfl rfl (by intro t u ht; match t, ht with | 0, ht => simp at ht; subst ht; simp [Addr.add]) (by intro u hu; simp at hu; subst hu; rfl) (by unfold maxLen; omega) (by omega) (by simp; omega) ?_; intro v' w3 hown' hgrow _)
        have R := Hid.mk' (And.intro hown' (owns_grow hown hbr _ hgrow))
        clear hown' hgrow hown hbr
        go_wp2
        go_roundw
        case rel => exact ⟨j + 1, by omega, by omega, by omega, by go_num, by rw [HS.out, List.map_append, show j + 1 - p = j - p + 1 by omega]; exact R.out.1, R.out.2⟩
        case measure => simp [intOf]; omega
      · rw [if_neg hL] at hsucc
        have HS := Hid.mk' hsucc
        have hbe : ((s[j].toNat : Int) != 76) = true := by rw [hk]; simpa using hL
        clear hk hsucc hL
        go_wp2_with (at_builtin; refine wpList_append_own _ rfl _ _ 22 rfl w.heap.size 3 i0 (.int .i64 0) 1 8 Try.underlying22 hi hz0 hz1 hz2 rfl (by decide) _ _ _ rfl (hown.alloc _) ⟨wr.heap.size, 0, none⟩ 1 1 [.int .i64 (2 * (D : Int) + 1)] rfl rfl (by intro t u ht; match t, ht with | 0, ht => simp at ht; subst ht; simp [Addr.add]) (by intro u hu; simp at hu; subst hu; rfl) (by unfold maxLen; omega) (by omega) (by simp; omega) ?_; intro v' w3 hown' hgrow _)
        have R := Hid.mk' (And.intro hown' (owns_grow hown hbr _ hgrow))
        clear hown' hgrow hown hbr
        go_wp2
        go_roundw
        case rel => exact ⟨j + 1, by omega, by omega, by omega, by go_num, by rw [HS.out, List.map_append, show j + 1 - p = j - p + 1 by omega]; exact R.out.1, R.out.2⟩
        case measure => simp [intOf]; omega
    · have hjm : j = min (q + 1) xs.length := by omega
      have hpl : (pieceTo xs p (j - p)).length = j - p := pieceTo_length _ _ _
      by_cases hend : xs.length ≤ q
      · have hpc : piece xs p q = pieceTo xs p (j - p) ++ [-1] := by unfold piece; rw [if_pos hend, ← hjm]
        have HPC := Hid.mk' hpc
        have hjx : xs.length ≤ j := by omega
        have HPL := Hid.mk' hpl
        clear hpc hjm hpl
        have hjq2 : j ≤ q := by omega
        go_wp2_with (at_builtin; refine wpList_append_own _ rfl _ _ 22 rfl w.heap.size 3 i0 (.int .i64 0) 1 8 Try.underlying22 hi hz0 hz1 hz2 rfl (by decide) _ _ _ rfl (hown.alloc _) ⟨wr.heap.size, 0, none⟩ 1 1 [.int .i64 (-1)] rfl rfl (by intro t u ht; match t, ht with | 0, ht => simp at ht; subst ht; simp [Addr.add]) (by intro u hu; simp at hu; subst hu; rfl) (by unfold maxLen; omega) (by omega) (by simp; omega) ?_; intro v' w3 hown' hgrow _)
        have R := Hid.mk' (And.intro hown' (owns_grow hown hbr _ hgrow))
        clear hown' hgrow hown hbr
        go_wp2
        go_ret
        exact ⟨_, rfl, by rw [HPC.out, List.map_append, List.length_append, HPL.out]; exact R.out.1, R.out.2⟩
      · have hpc : piece xs p q = pieceTo xs p (j - p) := by unfold piece; rw [if_neg hend, ← hjm, List.append_nil]
        have HPC := Hid.mk' hpc
        have HPL := Hid.mk' hpl
        have hjq2 : ¬ j ≤ q := by omega
        have R := Hid.mk' (And.intro hown hbr)
        clear hpc hjm hpl hown hbr
        go_wp2
        go_ret
        exact ⟨_, rfl, by rw [HPC.out, HPL.out]; exact R.out.1, R.out.2⟩

/-! ### A list of lists -/

/-- A list that is read, in a row apart from 'avoid'. -/
def Apart (w : World) (A : Option Addr) (l : List Int) (avoid : Option Nat) : Prop := Rd w A l ∧ ∀ x, A = some x → x.block < w.heap.size ∧ some x.block ≠ avoid
theorem Apart.below {w w' : World} {A : Option Addr} {l : List Int} {av : Option Nat} (h : Apart w A l av) (hb : Below w.heap.size w w') : Apart w' A l av :=
  ⟨h.1.below hb, fun x e => ⟨Nat.lt_of_lt_of_le (h.2 x e).1 hb.size, (h.2 x e).2⟩⟩
theorem Apart.grown {w w' : World} {A : Option Addr} {l : List Int} {av : Option Nat} (h : Apart w A l av) (hg : w.grownBy w' av) (av' : Option Nat) (hav : av' = av ∨ av' = some w.heap.size) : Apart w' A l av' := by
  refine ⟨fun hne => ?_, fun x e => ?_⟩
  · obtain ⟨b, off, rfl, hb, hc⟩ := h.1 hne
    have hx := h.2 ⟨b, off, none⟩ rfl
    exact ⟨b, off, rfl, Nat.lt_of_lt_of_le hb hg.size, fun i hi => hg.cell (hc i hi) hx.2⟩
  · have hx := h.2 x e
    refine ⟨Nat.lt_of_lt_of_le hx.1 hg.size, ?_⟩
    rcases hav with rfl | rfl
    · exact hx.2
    · intro h; have := Option.some.inj h; omega

/-- The values 'vs' are the slices of the first k pieces. -/
def PcAll (w : World) (vs : List Value) (xs : List Int) (k : Nat) (av : Option Nat) : Prop :=
  vs.length = k ∧ ∀ i, i < k → ∃ A c, vs[i]? = some (.slice A (pc xs i).length c) ∧ Apart w A (pc xs i) av
theorem PcAll.nil (w : World) (xs : List Int) (av : Option Nat) : PcAll w [] xs 0 av := ⟨rfl, by omega⟩
theorem PcAll.below {w w' : World} {vs : List Value} {xs : List Int} {k : Nat} {av : Option Nat} (h : PcAll w vs xs k av) (hb : Below w.heap.size w w') : PcAll w' vs xs k av :=
  ⟨h.1, fun i hi => by obtain ⟨A, c, h1, h2⟩ := h.2 i hi; exact ⟨A, c, h1, h2.below hb⟩⟩
theorem PcAll.snoc {w w' : World} {vs : List Value} {xs : List Int} {k : Nat} {av : Option Nat} {A : Option Addr} {c : Nat} (h : PcAll w vs xs k av) (hA : Apart w A (pc xs k) av) (hg : w.grownBy w' av) (av' : Option Nat) (hav : av' = av ∨ av' = some w.heap.size) : PcAll w' (vs ++ [.slice A (pc xs k).length c]) xs (k + 1) av' := by
  refine ⟨by simp [h.1], fun i hi => ?_⟩
  rcases Nat.lt_or_ge i k with h1 | h1
  · obtain ⟨B, d, h2, h3⟩ := h.2 i h1
    exact ⟨B, d, by rw [List.getElem?_append_left (by rw [h.1]; exact h1)]; exact h2, h3.grown hg av' hav⟩
  · obtain rfl : i = k := by omega
    exact ⟨A, c, by rw [List.getElem?_append_right (by rw [h.1]; exact Nat.le_refl _), h.1, Nat.sub_self]; rfl, hA.grown hg av' hav⟩

theorem Try.infoSlice : (Try.prog.info? 22).map (fun i => (i.zero, i.size, i.bytes)) = some (some (.slice none 0 0), 1, 24) := by kernel_rfl

theorem owns_below {w w' : World} {B : Nat} {e : TypeId} {size : Nat} {v : Value} {n : Nat} {xs : List Value} (h : w.ownsRow B e size v n xs) (hb : Below w.heap.size w w') : w'.ownsRow B e size v n xs := by
  refine ⟨h.1, ?_⟩
  rcases h.2 with h1 | ⟨g, c, cur, h1, h2, h3, h4⟩
  · exact .inl h1
  · exact .inr ⟨g, c, cur, h1, h2, by rw [hb.block g (Array.getElem?_eq_some_iff.1 h3).1]; exact h3, h4⟩

/-- What the call of piece leaves, as a list apart from whatever was there before. -/
theorem apart_new {w w' : World} {r : Value} {l : List Int} (h : w'.ownsRow w.heap.size 3 1 r l.length (l.map (Value.int .i64))) (av : Option Nat) (hav : ∀ k, av = some k → k < w.heap.size) : ∃ A c, r = .slice A l.length c ∧ Apart w' A l av := by
  rcases h.2 with ⟨rfl, h0⟩ | ⟨g, c, cur, rfl, hb, hg, _⟩
  · obtain rfl : l = [] := List.eq_nil_of_length_eq_zero h0
    exact ⟨none, 0, rfl, Rd.nil _ _, fun x e => by cases e⟩
  · refine ⟨some ⟨g, 0, none⟩, c, rfl, rd_of_owns h, fun x e => ?_⟩
    cases e
    exact ⟨(Array.getElem?_eq_some_iff.1 hg).1, fun e => by have := hav g e.symm; omega⟩
theorem owns_lt {w : World} {B : Nat} {e : TypeId} {size : Nat} {v : Value} {n : Nat} {xs : List Value} (h : w.ownsRow B e size v n xs) : ∀ k, v.ownBlock = some k → k < w.heap.size := by
  intro k hk
  rcases h.2 with ⟨rfl, _⟩ | ⟨g, _, _, rfl, _, hg, _⟩
  · simp [Value.ownBlock] at hk
  · simp [Value.ownBlock] at hk; subst hk; exact (Array.getElem?_eq_some_iff.1 hg).1

theorem pc_eq {xs : List Int} {k p q : Nat} (hp : (marks xs).getD k 0 = p) (hq : (if k + 1 < (marks xs).length then ((marks xs).getD (k + 1) 0).toNat else xs.length) = q) : pc xs k = piece xs p q := by
  unfold pc; rw [hp, hq, Int.toNat_natCast]

set_option maxHeartbeats 1600000 in
set_option maxRecDepth 100000 in
theorem pieces_any (a : Option Addr) (cap : Nat) (xs : List Int) (w : World) (hr : Rd w a xs) (hl : xs.length ≤ 1073741823) (hcap : xs.length ≤ cap) (hcap' : cap ≤ 9223372036854775807) :
    Calls Try.prog 65 #[.slice a xs.length cap] w fun e w' => ∃ r vs, e = .returned r ∧ w'.ownsRow w.heap.size 22 1 r (marks xs).length vs ∧ PcAll w' vs xs (marks xs).length r.ownBlock ∧ Below w.heap.size w w' := by
  obtain ⟨i0, hi, hz0, hz1, hz2⟩ := info_parts Try.infoSlice
  obtain ⟨hsz, hby⟩ := kinds_string xs
  have hmk := marks_length_le xs
  go_enter Try.func65, Try.ntmps65
  go_wp2_with fail
  refine (refDense_any _ _ xs _ hr (by omega) hcap).mono ?_
  rintro e w1 ⟨rfl, hd1, hb1⟩
  have hr1 := hr.below hb1
  have hlt1 := hd1.lt
  go_wp2_with fail
  refine (refKinds_any _ _ xs _ hr1 (by omega) hcap hcap').mono ?_
  rintro e w2 ⟨rfl, hb2⟩
  have hr2 := hr1.below hb2
  have hd2 := hd1.below hb2 hlt1
  have hb02 : Below w.heap.size w w2 := hb1.trans (hb2.mono hb1.size)
  generalize strOfNums (kindsL xs) = s at hsz hby ⊢
  clear hr1 hd1 hb1 hb2
  go_wp2_with fail
  refine (refMarks_any _ _ xs _ hr2 hl hcap hcap').mono ?_
  rintro e w3 ⟨r, rfl, hownM, hb3⟩
  have hd3 := hd2.below hb3 hd2.lt
  have hb03 : Below w.heap.size w w3 := hb02.trans (hb3.mono hb02.size)
  obtain ⟨A, cM, rfl, hrM, hMn, hnc, hcm⟩ := owns_slice hownM
  have HDen := Hid.mk' hd3.rd
  have HD := Hid.mk' (And.intro hsz hby)
  have hs0 := hb03.size
  clear hownM hr2 hd2 hd3 hb02 hb3 hsz hby hMn
  go_wp2
  go_loopw [7, 8] (fun out i wr => ∃ (k : Nat) (vs : List Value), k ≤ (marks xs).length ∧ i = .int .i64 k ∧ wr.ownsRow w3.heap.size 22 1 out k vs ∧ Hid (PcAll wr vs xs k out.ownBlock) ∧ Below w3.heap.size w3 wr) (fun _ i _ => (marks xs).length - (intOf i).toNat)
  case atStart => exact ⟨0, [], Nat.zero_le _, rfl, World.ownsRow_nil _ _ _ _, PcAll.nil _ _ _, Below.refl _ _⟩
  case round =>
    obtain ⟨k, vs, hk, rfl, hown, HP, hbr⟩ := hrel
    by_cases hlt : k < (marks xs).length
    · have hrm := hrM.below hbr
      have hrd := HDen.out.below hbr
      obtain ⟨p, hp, hpx, -⟩ := marks_at hlt
      obtain ⟨b, off, rfl, hb, hc⟩ := hrm.at hlt
      have hc1 := hc k hlt
      rw [hp] at hc1
      by_cases hnx : k + 1 < (marks xs).length
      · obtain ⟨q, hq, hqx, -⟩ := marks_at hnx
        have hc2 := hc (k + 1) hnx
        rw [hq] at hc2
        have hpq : p ≤ q := by have := marks_next hnx; omega
        have HPC := Hid.mk' (pc_eq hp (q := q) (by rw [if_pos hnx, hq, Int.toNat_natCast]))
        have HI := Hid.mk' (piece_any (some ⟨w.heap.size, 0, none⟩) xs.length xs s p q wr hrd hl HD.out.1 HD.out.2 hpq hpx (by omega))
        have HOwn := Hid.mk' hown
        have HBr := Hid.mk' hbr
        clear hc hp hq hrm hrd hown hbr
        go_wp2_with fail
        refine HI.out.mono ?_
        rintro e w4 ⟨r, rfl, hown4, hb4⟩
        rw [← HPC.out] at hown4
        obtain ⟨A4, c4, rfl, hap⟩ := apart_new hown4 _ (owns_lt HOwn.out)
        have hsz4 := hb4.size
        have hown5 : w4.ownsRow w3.heap.size 22 1 _ k vs := owns_below HOwn.out hb4
        have HP4 := HP.out.below hb4
        have hb34 : Below w3.heap.size w3 w4 := HBr.out.trans (hb4.mono HBr.out.size)
        have hs34 := hb34.size
        go_wp2_with (at_builtin; refine wpList_append_own_at _ rfl _ _ 63 rfl w3.heap.size 22 i0 (.slice none 0 0) 1 24 Try.underlying63 hi hz0 hz1 hz2 rfl (by decide) _ _ _ rfl (hown5.alloc _) ⟨w4.heap.size, 0, none⟩ 1 1 [.slice A4 (pc xs k).length c4] rfl rfl (by intro t u ht; match t, ht with | 0, ht => simp at ht; subst ht; simp [Addr.add]) (by intro u hu; simp at hu; subst hu; rfl) (by unfold maxLen; omega) (by omega) (by simp; omega) ?_; intro v' w5 hown' hgrow _ hloc)
        have R := Hid.mk' (And.intro hown' (And.intro (PcAll.snoc (c := c4) (HP4.below ((Below.refl _ _).alloc (Nat.le_refl _) _)) (hap.below ((Below.refl _ _).alloc (Nat.le_refl _) _)) hgrow _ hloc) (show Below w3.heap.size w3 w5 from (hb34.alloc hs34 _).grown hgrow (by simp; omega) (fun m hm => owns_block hown5 m hm))))
        clear hown' hgrow hloc hown5 HP4 hap hown4 hb4 HI
        go_wp2
        go_roundw
        case rel => exact ⟨k + 1, _, by omega, by go_num, R.out.1, R.out.2.1, R.out.2.2⟩
        case measure => simp [intOf]; omega
      · have HPC := Hid.mk' (pc_eq hp (q := xs.length) (by rw [if_neg hnx]))
        have HI := Hid.mk' (piece_any (some ⟨w.heap.size, 0, none⟩) xs.length xs s p xs.length wr hrd hl HD.out.1 HD.out.2 (by omega) hpx (Nat.le_refl _))
        have HOwn := Hid.mk' hown
        have HBr := Hid.mk' hbr
        clear hc hp hrm hrd hown hbr
        go_wp2_with fail
        refine HI.out.mono ?_
        rintro e w4 ⟨r, rfl, hown4, hb4⟩
        rw [← HPC.out] at hown4
        obtain ⟨A4, c4, rfl, hap⟩ := apart_new hown4 _ (owns_lt HOwn.out)
        have hsz4 := hb4.size
        have hown5 : w4.ownsRow w3.heap.size 22 1 _ k vs := owns_below HOwn.out hb4
        have HP4 := HP.out.below hb4
        have hb34 : Below w3.heap.size w3 w4 := HBr.out.trans (hb4.mono HBr.out.size)
        have hs34 := hb34.size
        go_wp2_with (at_builtin; refine wpList_append_own_at _ rfl _ _ 63 rfl w3.heap.size 22 i0 (.slice none 0 0) 1 24 Try.underlying63 hi hz0 hz1 hz2 rfl (by decide) _ _ _ rfl (hown5.alloc _) ⟨w4.heap.size, 0, none⟩ 1 1 [.slice A4 (pc xs k).length c4] rfl rfl (by intro t u ht; match t, ht with | 0, ht => simp at ht; subst ht; simp [Addr.add]) (by intro u hu; simp at hu; subst hu; rfl) (by unfold maxLen; omega) (by omega) (by simp; omega) ?_; intro v' w5 hown' hgrow _ hloc)
        have R := Hid.mk' (And.intro hown' (And.intro (PcAll.snoc (c := c4) (HP4.below ((Below.refl _ _).alloc (Nat.le_refl _) _)) (hap.below ((Below.refl _ _).alloc (Nat.le_refl _) _)) hgrow _ hloc) (show Below w3.heap.size w3 w5 from (hb34.alloc hs34 _).grown hgrow (by simp; omega) (fun m hm => owns_block hown5 m hm))))
        clear hown' hgrow hloc hown5 HP4 hap hown4 hb4 HI
        go_wp2
        go_roundw
        case rel => exact ⟨k + 1, _, by omega, by go_num, R.out.1, R.out.2.1, R.out.2.2⟩
        case measure => simp [intOf]; omega
    · obtain rfl : k = (marks xs).length := by omega
      have R := Hid.mk' (And.intro (ownsRow_base hown hs0) (hb03.trans (hbr.mono hs0)))
      clear hown hbr
      go_wp2
      go_ret
      exact ⟨_, vs, rfl, R.out.1, HP.out, R.out.2⟩

end Go.Proofs.Ytdhehffdddbmbaa
