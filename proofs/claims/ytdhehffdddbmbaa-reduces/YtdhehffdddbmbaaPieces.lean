/-
  Pieces: P12: the walks of the program's Reduce: marks, weights, pieces, names.
-/
import Derived.Test.YtdhehffdddbmbaaTSame
import Derived.Test.YtdhehffdddbmbaaRanks
import Derived.Test.YtdhehffdddbmbaaRefNames
import Derived.Test.YtdhehffdddbmbaaMDrawn
namespace Go.Proofs.Ytdhehffdddbmbaa
open Go.RowKit

/-! ### The marks -/

set_option maxHeartbeats 800000 in
set_option maxRecDepth 100000 in
theorem marksOf_any (xs : List Int) (s : ByteArray) (w : World) (hl : xs.length ≤ 1073741823) (hsz : s.size = xs.length) (hby : ∀ i (h : i < s.size), (s[i].toNat : Int) = kd xs i) :
    Calls Try.prog 86 #[.string s] w fun e w' => e = .returned (.slice (some ⟨w.heap.size, 0, none⟩) (marks xs).length xs.length) ∧ w'.ownsRow w.heap.size 3 1 (.slice (some ⟨w.heap.size, 0, none⟩) (marks xs).length xs.length) (marks xs).length ((marks xs).map (Value.int .i64)) ∧ Below w.heap.size w w' := by
  obtain ⟨i0, hi, hz0, hz1, hz2⟩ := info_parts Try.info3
  have hml : s.size ≤ maxLen := by unfold maxLen; omega
  have HSZ := Hid.mk' hsz
  have HBY := Hid.mk' hby
  have hsl : s.size ≤ 1073741823 := by omega
  clear hsz hby hl
  go_enter Try.func86, Try.ntmps86
  go_wp2_with (at_make; refine wpList_make_own _ rfl _ _ 22 rfl w.heap.size 3 i0 (.int .i64 0) 1 Try.underlying22 hi hz0 hz1 _ _ _ s.size rfl rfl (by omega) ?b2 hml (Nat.le_refl _) ?_)
  case b2 => rw [hz2]; omega
  intro w0 hown0 hgrow0
  have hb0 : Below w.heap.size w w0 := (Below.refl _ _).grown hgrow0 (Nat.le_refl _) (fun k h => by cases h)
  go_wp2
  go_loopw [3, 4] (fun out i wr => ∃ n : Nat, n ≤ s.size ∧ i = .int .i64 n ∧ out = .slice (some ⟨w.heap.size, 0, none⟩) (marksTo xs n).length s.size ∧ wr.ownsRow w.heap.size 3 1 (.slice (some ⟨w.heap.size, 0, none⟩) (marksTo xs n).length s.size) (marksTo xs n).length ((marksTo xs n).map (Value.int .i64)) ∧ Below w.heap.size w wr) (fun _ i _ => s.size - (intOf i).toNat)
  case atStart => exact ⟨0, Nat.zero_le _, rfl, rfl, hown0, hb0⟩
  case round =>
    clear hown0 hgrow0 hb0
    obtain ⟨n, hn, rfl, rfl, hown, hbr⟩ := hrel
    have hsz := hbr.size
    have hle := marksTo_length_le xs n
    by_cases hlt : n < s.size
    · have hk := HBY.out n hlt
      have hsucc := marksTo_succ xs n
      cases hm : isMark xs n with
      | true =>
        rw [hm, if_pos rfl] at hsucc
        have HS := Hid.mk' hsucc
        have hbe : ((s[n].toNat : Int) == 77) = true := by
          have : kd xs n = 77 := by simpa [isMark] using hm
          rw [hk, this]; rfl
        clear hk hsucc hm
        go_wp2_with (at_builtin; refine wpList_append_fits _ rfl _ _ 22 rfl w.heap.size 3 i0 1 Try.underlying22 hi hz1 w.heap.size (marksTo xs n).length s.size _ rfl (hown.alloc _) ⟨wr.heap.size, 0, none⟩ 1 1 [.int .i64 (n : Int)] rfl rfl (by intro t u ht; match t, ht with | 0, ht => simp at ht; subst ht; simp [Addr.add]) (by intro u hu; simp at hu; subst hu; rfl) (by omega) ?_; intro w3 hown3 hgrow3)
        have hn3 : Below w.heap.size w w3 := (hbr.alloc hbr.size _).grown hgrow3 (by simp; omega) (fun k hk => by cases hk; exact Nat.le_refl _)
        have HL : Hid ((marksTo xs (n + 1)).length = (marksTo xs n).length + 1) := by rw [Hid, HS.out]; simp
        clear hown hgrow3 hbr
        go_wp2
        go_roundw
        case rel => exact ⟨n + 1, by omega, by go_num, by rw [HL.out], by rw [HL.out, HS.out, List.map_append]; exact hown3, hn3⟩
        case measure => simp [intOf]; omega
      | false =>
        rw [hm, if_neg (by simp), List.append_nil] at hsucc
        have HS := Hid.mk' hsucc
        have hbe : ((s[n].toNat : Int) == 77) = false := by
          have : ¬ kd xs n = 77 := by simpa [isMark] using hm
          rw [hk]; simpa using this
        clear hk hsucc hm
        go_wp2
        go_roundw
        case rel => exact ⟨n + 1, by omega, by go_num, by rw [HS.out], by rw [HS.out]; exact hown, hbr⟩
        case measure => simp [intOf]; omega
    · have HE : Hid (marksTo xs n = marks xs) := by unfold marks; rw [show n = xs.length by have := HSZ.out; omega]; rfl
      have R := Hid.mk' (And.intro hown hbr)
      clear hown hbr
      go_wp2
      go_ret
      exact ⟨by rw [HE.out, HSZ.out]; rfl, by rw [← HE.out, ← HSZ.out]; exact R.out.1, R.out.2⟩

/-! ### The weights -/

theorem code_of {xs : List Int} {n D : Nat} (hD : (dense xs).getD n 0 = D) : code xs n + 1 = 2 * (D : Int) + 1 + if kd xs n = 76 then 0 else 1 := by
  unfold code; rw [hD]; omega

set_option maxHeartbeats 1600000 in
set_option maxRecDepth 100000 in
theorem weightsOf_any (a : Option Addr) (cap : Nat) (xs : List Int) (s : ByteArray) (w : World) (hr : Rd w a xs) (hl : xs.length ≤ 1073741823) (h0 : ∀ x ∈ xs, 0 ≤ x) (hsz : s.size = xs.length) (hby : ∀ i (h : i < s.size), (s[i].toNat : Int) = kd xs i) :
    Calls Try.prog 87 #[.slice a xs.length cap, .string s] w fun e w' => ∃ g c, w.heap.size ≤ g ∧ e = .returned (.slice (some ⟨g, 0, none⟩) (xs.length + 1) c) ∧ xs.length + 1 ≤ c ∧ c ≤ 9223372036854775807 ∧ Rd w' (some ⟨g, 0, none⟩) (wts xs) ∧ Below w.heap.size w w' ∧ w.heap.size < w'.heap.size := by
  obtain ⟨i0, hi, hz0, hz1, hz2⟩ := info_parts Try.info3
  have hml : xs.length ≤ maxLen := by unfold maxLen; omega
  have HBY := Hid.mk' hby
  have hsl : xs.length ≤ s.size := by omega
  have H0 := Hid.mk' h0
  clear hsz hby h0
  go_enter Try.func87, Try.ntmps87
  go_wp2_with fail
  refine (textsDense_any a cap xs _ hr (by omega) H0.out).mono ?_
  rintro e w1 ⟨g, hg, rfl, ho, hb1⟩
  go_wp2
  go_loopw [6] (fun i wr => ∃ (n : Nat) (ds : List Int), n ≤ xs.length ∧ i = .int .i64 n ∧ Hid (Wt xs ds n) ∧ Hid (Own wr g ds) ∧ Hid (Below w.heap.size w wr)) (fun i _ => xs.length - (intOf i).toNat)
  case atStart => exact ⟨0, _, Nat.zero_le _, rfl, Wt.start xs, ho, hb1⟩
  case round =>
    clear ho hb1
    obtain ⟨n, ds, hn, rfl, HC, HO, HB⟩ := hrel
    by_cases hlt : n < xs.length
    · have hns : n < s.size := by omega
      have hk := HBY.out n hns
      obtain ⟨D, hD, hDl⟩ := dense_getD xs n hlt
      have hnd : n < ds.length := by rw [HC.out.len]; exact hlt
      have hcell := HO.out.cell hnd
      rw [HC.out.yet n (Nat.le_refl _), hD] at hcell
      have hfz := HO.out.frozen n
      have HD := Hid.mk' (code_of hD)
      clear hD
      by_cases hL : kd xs n = 76
      · have HS := Hid.mk' (HC.out.step hlt (v := 2 * (D : Int) + 1) (by rw [HD.out, if_pos hL]; omega))
        have hbe : ((s[n].toNat : Int) != 76) = false := by rw [hk, hL]; rfl
        clear hk hL
        go_wp2
        go_roundw
        case rel => exact ⟨n + 1, _, by omega, by go_num, HS, HO.out.set n _, HB.out.setCell (by show w.heap.size ≤ g; omega) _⟩
        case measure => simp [intOf]; omega
      · have HS := Hid.mk' (HC.out.step hlt (v := 2 * (D : Int) + 1 + 1) (by rw [HD.out, if_neg hL]))
        have hbe : ((s[n].toNat : Int) != 76) = true := by rw [hk]; simpa using hL
        clear hk hL
        go_wp2
        go_roundw
        case rel => exact ⟨n + 1, _, by omega, by go_num, HS, by rw [← List.set_set (a := 2 * (D : Int) + 1)]; exact (HO.out.set n _).set n _, (HB.out.setCell (by show w.heap.size ≤ g; omega) _).setCell (by show w.heap.size ≤ g; omega) _⟩
        case measure => simp [intOf]; omega
    · have HS := Hid.mk' (HC.out.done (by omega))
      have hdl : ds.length = xs.length := HC.out.len
      have hown := owns_of_own HO.out hg hdl hml
      have hsz := HB.out.size
      have HB2 := HB
      clear hdl
      go_wp2_with (at_builtin; refine wpList_append_own _ rfl _ _ 22 rfl w.heap.size 3 i0 (.int .i64 0) 1 8 Try.underlying22 hi hz0 hz1 hz2 rfl (by decide) _ _ _ rfl (hown.alloc _) ⟨wr.heap.size, 0, none⟩ 1 1 [.int .i64 0] rfl rfl (by intro t u ht; match t, ht with | 0, ht => simp at ht; subst ht; simp [Addr.add]) (by intro u hu; simp at hu; subst hu; rfl) (by unfold maxLen; omega) (by omega) (by simp; omega) ?_; intro v' w3 hown' hgrow _)
      have hb3 : Below w.heap.size w w3 := owns_grow hown HB.out _ hgrow
      rw [show ds.map (Value.int .i64) ++ [Value.int .i64 0] = (wts xs).map (Value.int .i64) by rw [← HS.out]; simp] at hown'
      have hlt3 := owns_lt hown'
      obtain ⟨A, c, rfl, hrd, -, hc1, hc2⟩ := owns_slice hown'
      obtain ⟨g', hA, hg'⟩ : ∃ g', A = some ⟨g', 0, none⟩ ∧ w.heap.size ≤ g' := by
        rcases hown'.2 with ⟨hv, h1⟩ | ⟨g', c', cur, hv, h2, _⟩
        · omega
        · cases hv; exact ⟨g', rfl, h2⟩
      subst hA
      have hs3 := hlt3 g' rfl
      have R := Hid.mk' (And.intro hrd hb3)
      clear hown' hgrow hown hrd hb3 hlt3
      go_wp2
      go_ret
      exact ⟨g', c, hg', rfl, hc1, hc2, R.out.1, R.out.2, by omega⟩

/-! ### Lists of lists -/

/-- A slice of slices that reads as a list of lists. -/
def RdL (w : World) (a : Option Addr) (ls : List (List Int)) : Prop :=
  ls ≠ [] → ∃ b off, a = some ⟨b, off, none⟩ ∧ b < w.heap.size ∧ ∀ (i : Nat) (l : List Int), ls[i]? = some l → ∃ (A : Option Addr) (c : Nat), w.cell? ⟨b, off + i, none⟩ = some (Value.slice A l.length c) ∧ Rd w A l
theorem RdL.below {w w' : World} {a : Option Addr} {ls : List (List Int)} (h : RdL w a ls) (hb : Below w.heap.size w w') : RdL w' a ls := by
  intro hx
  obtain ⟨b, off, rfl, hlt, hc⟩ := h hx
  refine ⟨b, off, rfl, Nat.lt_of_lt_of_le hlt hb.size, fun i l hi => ?_⟩
  obtain ⟨A, c, h1, h2⟩ := hc i l hi
  exact ⟨A, c, (hb.cell (p := ⟨b, off + i, none⟩) hlt).trans h1, h2.below hb⟩
theorem RdL.at {w : World} {a : Option Addr} {ls : List (List Int)} (h : RdL w a ls) {i : Nat} {l : List Int} (hi : ls[i]? = some l) : ∃ b off A c, a = some ⟨b, off, none⟩ ∧ w.cell? ⟨b, off + i, none⟩ = some (.slice A l.length c) ∧ Rd w A l := by
  obtain ⟨b, off, rfl, _, hc⟩ := h (by rintro rfl; simp at hi)
  obtain ⟨A, c, h1, h2⟩ := hc i l hi
  exact ⟨b, off, A, c, rfl, h1, h2⟩

/-- The values are slices that read as these lists. -/
def Sls (w : World) (vs : List Value) (ls : List (List Int)) : Prop := vs.length = ls.length ∧ ∀ (i : Nat) (l : List Int), ls[i]? = some l → ∃ (A : Option Addr) (c : Nat), vs[i]? = some (Value.slice A l.length c) ∧ Rd w A l
theorem Sls.nil (w : World) : Sls w [] [] := ⟨rfl, fun i l h => by simp at h⟩
theorem Sls.snoc {w : World} {vs : List Value} {ls : List (List Int)} (h : Sls w vs ls) {A : Option Addr} {l : List Int} {c : Nat} (hr : Rd w A l) : Sls w (vs ++ [.slice A l.length c]) (ls ++ [l]) := by
  refine ⟨by simp [h.1], fun i l' hi => ?_⟩
  rcases Nat.lt_or_ge i ls.length with h1 | h1
  · rw [List.getElem?_append_left h1] at hi
    obtain ⟨B, d, h2, h3⟩ := h.2 i l' hi
    exact ⟨B, d, by rw [List.getElem?_append_left (by rw [h.1]; exact h1)]; exact h2, h3⟩
  · rw [List.getElem?_append_right h1] at hi
    have : i - ls.length = 0 := by
      rcases Nat.eq_zero_or_pos (i - ls.length) with h2 | h2
      · exact h2
      · rw [List.getElem?_eq_none (by simp; omega)] at hi; cases hi
    rw [this] at hi
    obtain rfl : l = l' := by simpa using hi
    exact ⟨A, c, by rw [List.getElem?_append_right (by rw [h.1]; exact h1), h.1, this]; rfl, hr⟩
theorem Sls.below {w w' : World} {vs : List Value} {ls : List (List Int)} (h : Sls w vs ls) (hb : Below w.heap.size w w') : Sls w' vs ls :=
  ⟨h.1, fun i l hi => by obtain ⟨A, c, h1, h2⟩ := h.2 i l hi; exact ⟨A, c, h1, h2.below hb⟩⟩
theorem ownsRow_cells {w : World} {B g n cap : Nat} {e : TypeId} {vs : List Value} (h : w.ownsRow B e 1 (.slice (some ⟨g, 0, none⟩) n cap) n vs) : g < w.heap.size ∧ ∀ i v, vs[i]? = some v → w.cell? ⟨g, i, none⟩ = some v := by
  have hc := h.cells (g := g) rfl
  refine ⟨?_, fun i v hi => ?_⟩
  · rcases h.2 with ⟨hv, _⟩ | ⟨g', cap', cur, hv, _, hg, _⟩
    · cases hv
    · cases hv; exact (Array.getElem?_eq_some_iff.1 hg).1
  · have := hc i v hi
    rwa [show (⟨g, 0, none⟩ : Addr).add i = ⟨g, i, none⟩ by unfold Addr.add; split <;> simp_all] at this
theorem rdL_of_owns {w : World} {B g n cap : Nat} {e : TypeId} {vs : List Value} {ls : List (List Int)} (h : w.ownsRow B e 1 (.slice (some ⟨g, 0, none⟩) n cap) n vs) (hs : Sls w vs ls) : RdL w (some ⟨g, 0, none⟩) ls := by
  obtain ⟨h1, h2⟩ := ownsRow_cells h
  refine fun _ => ⟨g, 0, rfl, h1, fun i l hi => ?_⟩
  obtain ⟨A, c, h3, h4⟩ := hs.2 i l hi
  exact ⟨A, c, by rw [Nat.zero_add]; exact h2 i _ h3, h4⟩
theorem rdL_of_ownV {w : World} {g : Nat} {t : TypeId} {vs : List Value} {ls : List (List Int)} (h : OwnV w g t vs) (hs : Sls w vs ls) : RdL w (some ⟨g, 0, none⟩) ls := by
  refine fun _ => ⟨g, 0, rfl, h.lt, fun i l hi => ?_⟩
  obtain ⟨A, c, h3, h4⟩ := hs.2 i l hi
  have hi2 : i < vs.length := (List.getElem?_eq_some_iff.1 h3).1
  refine ⟨A, c, ?_, h4⟩
  rw [Nat.zero_add, h.cell hi2]
  rw [List.getElem?_eq_getElem hi2] at h3
  exact h3

/-! ### One of several -/

theorem lnotin_step {ls : List (List Int)} {x : List Int} {m : Nat} {l : List Int} (hm : ls[m]? = some l) (h : ¬ x ∈ ls.take m) (hx : (l == x) = false) : ¬ x ∈ ls.take (m + 1) := by
  rw [List.take_add_one, hm]
  intro h2
  rcases List.mem_append.1 h2 with h3 | h3
  · exact h h3
  · simp at h3
    subst h3
    simp at hx

set_option maxHeartbeats 800000 in
theorem isAmong_any (a a' : Option Addr) (cap cap' len len' : Nat) (ls : List (List Int)) (x : List Int) (w : World) (hr : RdL w a ls) (hr' : Rd w a' x) (hl : ls.length ≤ 1073741824) (hx : x.length ≤ maxLen) (hs : ∀ l ∈ ls, l.length ≤ maxLen) (hlen : ls.length = len) (hlen' : x.length = len') (v : Bool) (hv : v = decide (x ∈ ls)) :
    Calls Try.prog 100 #[.slice a len cap, .slice a' len' cap'] w fun e w' => e = .returned (.bool v) ∧ ∃ q, w' = w.drewN q := by
  subst hlen; subst hlen'
  have HS := Hid.mk' hs
  have HV := Hid.mk' hv
  clear hs hv
  go_enter Try.func100, Try.ntmps100
  go_wp2
  go_loopw [5] (fun i wr => ∃ n q : Nat, n ≤ ls.length ∧ i = .int .i64 n ∧ Hid (¬ x ∈ ls.take n) ∧ Hid (wr = w.drewN q)) (fun i _ => ls.length - (intOf i).toNat)
  case atStart => exact ⟨0, 0, Nat.zero_le _, rfl, by simp [Hid], rfl⟩
  case round =>
    obtain ⟨n, q, hn, rfl, HN, HW⟩ := hrel
    have hr1 : RdL wr a ls := by rw [HW.out]; exact hr
    have hr2 : Rd wr a' x := by rw [HW.out]; exact hr'
    clear hr hr'
    by_cases hlt : n < ls.length
    · have hat : ls[n]? = some ls[n] := List.getElem?_eq_getElem hlt
      obtain ⟨b, off, A, c, rfl, hc1, hrA⟩ := hr1.at hat
      have HM := Hid.mk' (HS.out ls[n] (List.getElem_mem hlt))
      have HIn := Hid.mk' (List.getElem_mem hlt)
      have HAt := Hid.mk' hat
      clear hr1 hat
      generalize ls[n] = l at HM HIn HAt hc1 hrA
      cases he : l == x with
      | true =>
        have HE := Hid.mk' he
        clear he
        go_wp2_with fail
        refine (textsSame_any _ _ _ _ l x _ hrA hr2 HM.out hx).mono ?_
        rintro e w2 ⟨rfl, q2, rfl⟩
        rw [HE.out]
        go_wp2
        go_ret
        refine ⟨ret_bool ?_, by rw [HW.out, World.drewN_drewN]; exact ⟨_, rfl⟩⟩
        rw [HV.out, eq_comm, decide_eq_true_iff]
        have : l = x := by simpa using HE.out
        rw [← this]; exact HIn.out
      | false =>
        have HE := Hid.mk' he
        have HS2 := Hid.mk' (lnotin_step HAt.out HN.out he)
        clear he
        go_wp2_with fail
        refine (textsSame_any _ _ _ _ l x _ hrA hr2 HM.out hx).mono ?_
        rintro e w2 ⟨rfl, q2, rfl⟩
        rw [HE.out]
        go_wp2
        go_roundw
        case rel => exact ⟨n + 1, _, by omega, by go_num, HS2, by rw [HW.out, World.drewN_drewN]; rfl⟩
        case measure => simp [intOf]; omega
    · have HF : Hid (v = false) := by
        have := HN.out
        rw [List.take_of_length_le (by omega)] at this
        rw [Hid, HV.out]; simpa using this
      go_wp2
      go_ret
      exact ⟨ret_bool HF.out.symm, q, HW.out⟩

/-! ### How many are lesser -/

theorem lcount_step {ls : List (List Int)} {x : List Int} {m : Nat} {l : List Int} (hm : ls[m]? = some l) : (ls.take (m + 1)).countP (fun l => lt l x) = (ls.take m).countP (fun l => lt l x) + if lt l x = true then 1 else 0 := by
  rw [List.take_add_one, hm, List.countP_append]
  simp [List.countP_cons]

set_option maxHeartbeats 800000 in
theorem mcountLesser_any (a a' : Option Addr) (cap cap' len len' : Nat) (ls : List (List Int)) (x : List Int) (w : World) (hr : RdL w a ls) (hr' : Rd w a' x) (hl : ls.length ≤ 1073741824) (hs : ∀ l ∈ ls, l.length ≤ 1073741824) (hlen : ls.length = len) (hlen' : x.length = len') :
    Calls Try.prog 90 #[.slice a len cap, .slice a' len' cap'] w fun e w' => e = .returned (.int .i64 (ls.countP (fun l => lt l x))) ∧ ∃ q, w' = w.drewN q := by
  subst hlen; subst hlen'
  have HS := Hid.mk' hs
  clear hs
  go_enter Try.func90, Try.ntmps90
  go_wp2
  go_loopw [5, 6] (fun k i wr => ∃ n q z : Nat, n ≤ ls.length ∧ z ≤ n ∧ k = .int .i64 z ∧ i = .int .i64 n ∧ Hid (z = (ls.take n).countP (fun l => lt l x)) ∧ Hid (wr = w.drewN q)) (fun _ i _ => ls.length - (intOf i).toNat)
  case atStart => exact ⟨0, 0, 0, Nat.zero_le _, Nat.le_refl _, rfl, rfl, by simp [Hid], rfl⟩
  case round =>
    obtain ⟨n, q, z, hn, hz, rfl, rfl, HN, HW⟩ := hrel
    have hr1 : RdL wr a ls := by rw [HW.out]; exact hr
    have hr2 : Rd wr a' x := by rw [HW.out]; exact hr'
    clear hr hr'
    by_cases hlt : n < ls.length
    · have hat : ls[n]? = some ls[n] := List.getElem?_eq_getElem hlt
      obtain ⟨b, off, A, c, rfl, hc1, hrA⟩ := hr1.at hat
      have HM := Hid.mk' (HS.out ls[n] (List.getElem_mem hlt))
      have HC := Hid.mk' (lcount_step (x := x) hat)
      clear hr1 hat
      generalize ls[n] = l at HM HC hc1 hrA
      cases he : lt l x with
      | true =>
        rw [Hid, he, if_pos rfl, ← HN.out] at HC
        have HE := Hid.mk' he
        clear he
        go_wp2_with fail
        refine (lesser_lens _ _ _ _ l x _ hrA hr2 HM.out true HE.out).mono ?_
        rintro e w2 ⟨rfl, q2, rfl⟩
        have HCC : Hid (List.countP (fun l => lt l x) (List.take (n + 1) ls) = z + 1) := HC
        clear HC
        go_wp2
        go_roundw
        case rel => exact ⟨n + 1, _, z + 1, by omega, by omega, by go_num, by go_num, HCC.out.symm, by rw [HW.out, World.drewN_drewN]; rfl⟩
        case measure => simp [intOf]; omega
      | false =>
        rw [Hid, he, if_neg (by simp), ← HN.out] at HC
        have HE := Hid.mk' he
        clear he
        go_wp2_with fail
        refine (lesser_lens _ _ _ _ l x _ hrA hr2 HM.out false HE.out).mono ?_
        rintro e w2 ⟨rfl, q2, rfl⟩
        have HCC : Hid (List.countP (fun l => lt l x) (List.take (n + 1) ls) = z + 0) := HC
        clear HC
        go_wp2
        go_roundw
        case rel => exact ⟨n + 1, _, z, by omega, by omega, by go_num, by go_num, HCC.out.symm, by rw [HW.out, World.drewN_drewN]; rfl⟩
        case measure => simp [intOf]; omega
    · have HF : Hid ((z : Int) = (ls.countP (fun l => lt l x) : Nat)) := by
        have := HN.out
        rw [List.take_of_length_le (by omega)] at this
        rw [Hid, this]
      go_wp2
      go_ret
      exact ⟨ret_int HF.out, q, HW.out⟩

end Go.Proofs.Ytdhehffdddbmbaa
