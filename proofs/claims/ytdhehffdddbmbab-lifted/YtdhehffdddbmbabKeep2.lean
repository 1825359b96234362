/-
  Keep2: the statements' own common, less, same, built.
-/
import Derived.Test.YtdhehffdddbmbabKeep
import Derived.Test.YtdhehffdddbmbabBuiltLaw
namespace Go.Proofs.Ytdhehffdddbmbab
open Go.RowKit

set_option maxHeartbeats 1600000 in
set_option maxRecDepth 100000 in
theorem kcommon_any (a : Option Addr) (cap : Nat) (xs : List Int) (i j : Nat) (w : World) (hr : Rd w a xs) (hl : xs.length ≤ 1073741824) (hi : i ≤ 1073741824) (hj : j ≤ 1073741824) :
    Calls Try.prog 11 #[.slice a xs.length cap, .int .i64 i, .int .i64 j] w fun e w' => e = .returned (.int .i64 (cm xs i j)) ∧ ∃ q, w' = w.drewN q := by
  go_enter Try.func11, Try.ntmps11
  go_wp2
  go_loopw [7] (fun k wr => ∃ n q : Nat, n ≤ xs.length ∧ k = .int .i64 n ∧ Hid (cm xs i j = cm xs (i + n) (j + n) + n) ∧ Hid (wr = w.drewN q)) (fun k _ => xs.length - (intOf k).toNat)
  case atStart => exact ⟨0, 0, Nat.zero_le _, rfl, rfl, rfl⟩
  case round =>
    obtain ⟨n, q, hn, rfl, HC, HW⟩ := hrel
    have hr1 : Rd wr a xs := by rw [HW.out]; exact hr
    clear hr
    by_cases h1 : i + n < xs.length
    · have hd1 : decide ((i : Int) + (n : Int) < (xs.length : Int)) = true := decide_eq_true (by omega)
      by_cases h2 : j + n < xs.length
      · have hd2 : decide ((j : Int) + (n : Int) < (xs.length : Int)) = true := decide_eq_true (by omega)
        obtain ⟨b, off, rfl, hb, hc⟩ := hr1.at h1
        have hc1 := hc (i + n) h1
        have hc2 := hc (j + n) h2
        clear hc hr1
        by_cases h3 : xs[i + n] = xs[j + n]
        · have HS := Hid.mk' (cm_step h1 h2 h3)
          have hbe : (xs[i + n] == xs[j + n]) = true := by simp [h3]
          clear h3
          go_wp2
          go_quiet (fail)
          go_wp2
          go_roundw
          case rel => exact ⟨n + 1, _, by omega, by go_num, by rw [Hid, HC.out, HS.out]; simp only [Nat.add_assoc]; omega, by rw [HW.out, World.drewN_drewN]; rfl⟩
          case measure => simp [intOf]; omega
        · have HS := Hid.mk' (cm_stop h1 h2 h3)
          have hbe : (xs[i + n] == xs[j + n]) = false := by simp [h3]
          clear h3
          go_wp2
          go_quiet (fail)
          go_wp2
          go_ret
          exact ⟨ret_int (by rw [HC.out, HS.out, Nat.zero_add]), by rw [HW.out, World.drewN_drewN]; exact ⟨_, rfl⟩⟩
      · have hd2 : decide ((j : Int) + (n : Int) < (xs.length : Int)) = false := decide_eq_false (by omega)
        have HS := Hid.mk' (cm_end_right (xs := xs) (i := i + n) (j := j + n) (by omega))
        go_wp2
        go_quiet (fail)
        go_wp2
        go_ret
        exact ⟨ret_int (by rw [HC.out, HS.out, Nat.zero_add]), by rw [HW.out, World.drewN_drewN]; exact ⟨_, rfl⟩⟩
    · have hd1 : decide ((i : Int) + (n : Int) < (xs.length : Int)) = false := decide_eq_false (by omega)
      have HS := Hid.mk' (cm_end_left (xs := xs) (i := i + n) (j := j + n) (by omega))
      go_wp2
      go_quiet (fail)
      go_wp2
      go_ret
      exact ⟨ret_int (by rw [HC.out, HS.out, Nat.zero_add]), by rw [HW.out, World.drewN_drewN]; exact ⟨_, rfl⟩⟩

set_option maxHeartbeats 400000 in
theorem ksame_any (a a' : Option Addr) (cap cap' : Nat) (xs ys : List Int) (w : World) (hr : Rd w a xs) (hr' : Rd w a' ys) (hl : xs.length ≤ maxLen) (hl' : ys.length ≤ maxLen) :
    Calls Try.prog 14 #[.slice a xs.length cap, .slice a' ys.length cap'] w fun e w' => e = .returned (.bool (xs == ys)) ∧ ∃ q, w' = w.drewN q := by
  unfold maxLen at hl hl'
  by_cases hlen : xs.length = ys.length
  · go_enter Try.func14, Try.ntmps14
    go_wp2
    go_loopw [5] (fun i wr => ∃ n q : Nat, n ≤ ys.length ∧ xs.take n = ys.take n ∧ i = .int .i64 n ∧ wr = w.drewN q) (fun i _ => ys.length - (intOf i).toNat)
    case atStart => exact ⟨0, 0, Nat.zero_le _, rfl, rfl, rfl⟩
    case round =>
      obtain ⟨n, q, hn, ht, rfl, rfl⟩ := hrel
      have HT := Hid.mk' ht
      have HL := Hid.mk' hlen
      clear ht
      by_cases hlt : n < ys.length
      · obtain ⟨b, off, rfl, hb, hc⟩ := hr.at (i := n) (by omega)
        obtain ⟨b', off', rfl, hb', hc'⟩ := hr'.at hlt
        have hx : n < xs.length := by omega
        have hc1 := hc n hx
        have hc2 := hc' n hlt
        clear hc hr hc' hr'
        by_cases he : xs[n] = ys[n]
        · have HS := Hid.mk' (same_step n HL.out hx HT.out he)
          have hbe : (xs[n] != ys[n]) = false := by simp [he]
          clear he
          go_wp2
          go_quiet (fail)
          go_wp2
          go_roundw
          case rel => exact ⟨n + 1, _, by omega, HS.out, by go_num, rfl⟩
          case measure => simp [intOf]; omega
        · have HS := Hid.mk' (same_no n hx hlt he)
          have hbe : (xs[n] != ys[n]) = true := by simp [he]
          clear he
          go_wp2
          go_quiet (fail)
          go_wp2
          go_ret
          exact ⟨ret_bool HS.out.symm, qt2 _ _ _⟩
      · have HS := Hid.mk' (same_yes (xs := xs) (ys := ys) HL.out (by have : n = xs.length := by omega
                                                                      rw [← this]; exact HT.out))
        go_wp2
        go_ret
        exact ⟨ret_bool HS.out.symm, _, rfl⟩
  · have HS := Hid.mk' (show (xs == ys) = false by rw [beq_eq_false_iff_ne]; rintro rfl; exact hlen rfl)
    have hb : ((xs.length : Int) != (ys.length : Int)) = true := by simp; omega
    clear hlen
    go_enter Try.func14, Try.ntmps14
    go_wp2
    go_ret
    exact ⟨ret_bool HS.out.symm, 0, rfl⟩

/-- What is common decides. -/
theorem lt_cm {xs : List Int} : ∀ (n i j : Nat), xs.length - i = n → i ≤ xs.length → j ≤ xs.length → lt (xs.drop i) (xs.drop j) =
    if xs.length ≤ i + cm xs i j ∨ xs.length ≤ j + cm xs i j then decide (j < i) else decide (xs.getD (i + cm xs i j) 0 < xs.getD (j + cm xs i j) 0)
  | 0, i, j, h, hi, hj => by
    have e : cm xs i j = 0 := cm_end_left (by omega)
    rw [e, if_pos (.inl (by omega)), List.drop_eq_nil_of_le (show xs.length ≤ i by omega), lt_nil]
    simp; omega
  | n + 1, i, j, h, hi, hj => by
    have h1 : i < xs.length := by omega
    by_cases h2 : j < xs.length
    · by_cases he : xs[i] = xs[j]
      · rw [cm_step h1 h2 he, List.drop_eq_getElem_cons h1, List.drop_eq_getElem_cons h2, lt_cons, if_pos he, lt_cm n (i + 1) (j + 1) (by omega) (by omega) (by omega)]
        rw [show i + (cm xs (i + 1) (j + 1) + 1) = i + 1 + cm xs (i + 1) (j + 1) by omega, show j + (cm xs (i + 1) (j + 1) + 1) = j + 1 + cm xs (i + 1) (j + 1) by omega]
        simp
      · rw [cm_stop h1 h2 he, List.drop_eq_getElem_cons h1, List.drop_eq_getElem_cons h2, lt_cons, if_neg he, if_neg (by omega)]
        simp [List.getD, h1, h2]
    · have e : cm xs i j = 0 := cm_end_right (by omega)
      rw [e, if_pos (.inr (by omega)), List.drop_eq_nil_of_le (show xs.length ≤ j by omega), lt_to_nil]
      symm; simp; omega

set_option maxHeartbeats 800000 in
theorem kless_any (a : Option Addr) (cap : Nat) (xs : List Int) (i j : Nat) (w : World) (hr : Rd w a xs) (hl : xs.length ≤ 1073741824) (hi : i ≤ xs.length) (hj : j ≤ xs.length) :
    Calls Try.prog 10 #[.slice a xs.length cap, .int .i64 i, .int .i64 j] w fun e w' => e = .returned (.bool (lt (xs.drop i) (xs.drop j))) ∧ ∃ q, w' = w.drewN q := by
  have hlt := lt_cm (xs := xs) _ i j rfl hi hj
  have hcl := cm_le xs i j
  generalize hc : cm xs i j = c at hlt hcl
  have HC := Hid.mk' hc
  clear hc
  by_cases h1 : xs.length ≤ i + c
  · rw [if_pos (.inl h1)] at hlt
    have HL := Hid.mk' hlt
    have hd1 : decide ((xs.length : Int) ≤ (i : Int) + (c : Int)) = true := decide_eq_true (by omega)
    clear hlt
    go_enter Try.func10, Try.ntmps10
    go_wp2_with fail
    refine (kcommon_any _ _ xs i j _ hr hl (by omega) (by omega)).mono ?_
    rintro e w1 ⟨rfl, q, rfl⟩
    rw [HC.out]
    go_wp2
    go_ret
    exact ⟨ret_bool (by rw [HL.out]), q, rfl⟩
  · have hd1 : decide ((xs.length : Int) ≤ (i : Int) + (c : Int)) = false := decide_eq_false (by omega)
    by_cases h2 : xs.length ≤ j + c
    · rw [if_pos (.inr h2)] at hlt
      have HL := Hid.mk' hlt
      have hd2 : decide ((xs.length : Int) ≤ (j : Int) + (c : Int)) = true := decide_eq_true (by omega)
      clear hlt
      go_enter Try.func10, Try.ntmps10
      go_wp2_with fail
      refine (kcommon_any _ _ xs i j _ hr hl (by omega) (by omega)).mono ?_
      rintro e w1 ⟨rfl, q, rfl⟩
      rw [HC.out]
      go_wp2
      go_ret
      exact ⟨ret_bool (by rw [HL.out]), q, rfl⟩
    · rw [if_neg (by omega)] at hlt
      have HL := Hid.mk' hlt
      have hd2 : decide ((xs.length : Int) ≤ (j : Int) + (c : Int)) = false := decide_eq_false (by omega)
      obtain ⟨b, off, rfl, hb, hcx⟩ := hr.at (i := i + c) (by omega)
      have hc1 := hcx (i + c) (by omega)
      have hc2 := hcx (j + c) (by omega)
      have hic : i + c < xs.length := by omega
      have hjc : j + c < xs.length := by omega
      clear hlt hcx
      go_enter Try.func10, Try.ntmps10
      go_wp2_with fail
      refine (kcommon_any _ _ xs i j _ hr hl (by omega) (by omega)).mono ?_
      rintro e w1 ⟨rfl, q, hw1⟩
      have hc3 : w1.cell? ⟨b, off + (i + c), none⟩ = some (.int .i64 (xs.getD (i + c) 0)) := by rw [hw1]; exact hc1
      have hc4 : w1.cell? ⟨b, off + (j + c), none⟩ = some (.int .i64 (xs.getD (j + c) 0)) := by rw [hw1]; exact hc2
      have HW := Hid.mk' hw1
      rw [HC.out]
      clear hw1 hc1 hc2
      go_wp2
      go_quiet (fail)
      go_wp2
      go_ret
      exact ⟨ret_bool (by rw [HL.out]; simp [List.getD, hic, hjc]), by rw [HW.out, World.drewN_drewN]; exact ⟨_, rfl⟩⟩

/-- What the statements' own 'built' hands on. -/
def KB (w : World) (ts : List Int) (e : Ending) (w' : World) : Prop := ∃ gp v v' L z, e = .returned (.tuple #[.pointer (some ⟨gp, 0, none⟩), .bool true]) ∧ AnswerZ w w' gp v v' ts L z
theorem KB.of {w w' : World} {ts L : List Int} {gp : Nat} {z : Int} {e : Ending} {v v' : Value} (he : e = .returned (.tuple #[.pointer (some ⟨gp, 0, none⟩), .bool true])) (hA : AnswerZ w w' gp v v' ts L z) : KB w ts e w' := ⟨gp, v, v', L, z, he, hA⟩

set_option maxHeartbeats 1600000 in
set_option maxRecDepth 100000 in
theorem kbuilt_any (hok : ∀ k : Nat, k < 3 → BuildAny k) (a : Option Addr) (cap : Nat) (ts : List Int) (way bY : Int) (w : World) (hr : Rd w a ts) (hcap : ts.length ≤ cap) (hcap' : cap ≤ 9223372036854775807) (hs : scanE ts 60 = 0)
    (hw : -9223372036854775808 ≤ way ∧ way ≤ 9223372036854775807) (hb : -9223372036854775808 ≤ bY ∧ bY ≤ 9223372036854775807) :
    Calls Try.prog 9 #[.slice a ts.length cap, .int .i64 way, .int .i64 bY] w fun e w' => KB w ts e w' := by
  have h96 := (scan_zero hs).1
  have hw3 := pk_lt way (n := 3) (by omega)
  have hb2 := pk_lt bY (n := 2) (by omega)
  have HC := Hid.mk' (fun c => hok (pk way 3) hw3 a cap ts 60 (pk bY 2) c w hr hcap hcap' hs (by omega) (by omega))
  have HW := Hid.mk' hw
  have HB := Hid.mk' hb
  clear hs hok hw hb
  go_enter Try.func9, Try.ntmps9
  go_wp2_with fail
  refine (pick_any way 3 _ HW.out (by omega) (by omega)).mono ?_
  rintro e w1 ⟨rfl, rfl⟩
  go_wp2_with fail
  refine (pick_any bY 2 _ HB.out (by omega) (by omega)).mono ?_
  rintro e w1 ⟨rfl, rfl⟩
  generalize pk way 3 = wy at HC hw3 ⊢
  generalize pk bY 2 = by2 at HC hb2 ⊢
  go_wp2_with fail
  refine (HC.out _).mono ?_
  rintro e w2 ⟨gp, v, v', L, z, rfl, hA⟩
  obtain ⟨A, cA, rfl, hrA, hAl, -, -⟩ := owns_slice hA.own
  obtain ⟨S, cS, rfl, hrS, hSl, -, -⟩ := owns_slice hA.own'
  have HA := Hid.mk' hA
  have HOr := Hid.mk' hA.ord
  have hc0 := hA.at0
  have hc1 := hA.at1
  have HAl := Hid.mk' hAl
  clear hA hAl hSl hrS HC
  go_wp2
  go_loop [10] (fun i => ∃ n : Nat, n ≤ ts.length ∧ i = .int .i64 n) (fun i => ts.length - (intOf i).toNat)
  case atStart => exact ⟨0, Nat.zero_le _, rfl⟩
  case round =>
    obtain ⟨n, hn, rfl⟩ := hrel
    by_cases hlt : n < ts.length
    · have hnL : n < L.length := by have := HAl.out; omega
      have hat := OrdTo.at HOr.out hlt
      obtain ⟨bA, oA, rfl, hbA, hcA⟩ := hrA.at hnL
      have hc2 := hcA n hnL
      obtain ⟨p, hp⟩ : ∃ p : Nat, L.getD n 0 = p := ⟨(L.getD n 0).toNat, by omega⟩
      rw [hp] at hc2
      have hpl : p < ts.length := by omega
      clear hcA hp hat
      go_wp2
      go_round
      case rel => exact ⟨n + 1, by omega, by go_num⟩
      case measure => simp [intOf]; omega
    · go_wp2
      go_ret2
      exact KB.of rfl HA.out

theorem rd_ne {w : World} {b o : Nat} {l : List Int} {g : Nat} {A : Option Addr} (h : Rd w A l) (hl : 0 < l.length) (hA : A = some ⟨b, o, none⟩) (hg : g = w.heap.size) : b ≠ g := by
  obtain ⟨b', o', e, hb, _⟩ := h (by rintro rfl; simp at hl)
  rw [hA] at e
  cases e
  omega

/-- Which places have come up. -/
def Had (L : List Int) (k n : Nat) (hs : List Value) : Prop := hs.length = k ∧ ∀ p, p < k → hs[p]? = some (.bool (decide ((p : Int) ∈ L.take n)))
theorem Had.start (L : List Int) (k : Nat) : Had L k 0 (List.replicate k (.bool false)) := ⟨by simp, fun p hp => by simp [hp]⟩
theorem Had.step {L : List Int} {k n p : Nat} {hs : List Value} (h : Had L k n hs) (hn : n < L.length) (hp : L.getD n 0 = p) : Had L k (n + 1) (hs.set p (.bool true)) := by
  obtain ⟨h1, h2⟩ := h
  have hLn : L[n] = (p : Int) := by rw [← hp]; simp [List.getD, hn]
  refine ⟨by simpa using h1, fun q hq => ?_⟩
  by_cases e : q = p
  · subst e
    rw [List.getElem?_set_self (by omega)]
    have : (q : Int) ∈ L.take (n + 1) := by rw [take_snoc hn, hLn]; exact List.mem_append_right _ (List.mem_singleton.2 rfl)
    simp [this]
  · rw [List.getElem?_set_ne (fun h => e h.symm), h2 q hq]
    have : ((q : Int) ∈ L.take (n + 1)) ↔ ((q : Int) ∈ L.take n) := by
      rw [take_snoc hn, hLn, List.mem_append, List.mem_singleton]
      constructor
      · rintro (h | h)
        · exact h
        · omega
      · exact .inl
    simp [this]
theorem Had.no {xs L : List Int} {k n p : Nat} {hs : List Value} (h : Had L k n hs) (hO : Ord xs L) (hn : n < L.length) (hp : L.getD n 0 = p) (hpk : p < k) : hs[p]? = some (.bool false) := by
  have hLn : L[n] = (p : Int) := by rw [← hp]; simp [List.getD, hn]
  rw [h.2 p hpk]
  have : ¬ (p : Int) ∈ L.take n := by
    intro hm
    obtain ⟨i, hi, he⟩ := List.getElem_of_mem hm
    simp at hi he
    exact List.pairwise_iff_getElem.1 (OrdTo.nodup hO) i n (by omega) hn (by omega) (he.trans hLn.symm)
  simp [this]

theorem Try.infoBool : (Try.prog.info? 4).map (fun i => (i.zero, i.size, i.bytes)) = some (some (.bool false), 1, 1) := by kernel_rfl
theorem made_bools {w w0 : World} {n : Nat} (h : w0.ownsRow w.heap.size 4 1 (.slice (some ⟨w.heap.size, 0, none⟩) n n) n (madeCells #[Value.bool false] n).toList) (hg : w.grownBy w0 none) :
    OwnV w0 w.heap.size 4 (List.replicate n (.bool false)) ∧ Below w.heap.size w w0 ∧ w.heap.size < w0.heap.size := by
  rw [toList_madeCells_one] at h
  have ho : OwnV w0 w.heap.size 4 (List.replicate n (.bool false)) := by
    obtain ⟨hl, h2⟩ := h
    rcases h2 with ⟨hv, _⟩ | ⟨g', cap, cur, hv, _, hh, _, _, hsz, ht⟩
    · cases hv
    · cases hv
      simp at hsz ht hl
      unfold OwnV
      rw [hh]
      rw [List.take_of_length_le (by simp; omega)] at ht
      congr 1
      rw [← ht]
  exact ⟨ho, (Below.refl _ _).grown hg (Nat.le_refl _) (fun k h => by cases h), ho.lt⟩
theorem OwnV.get {w : World} {g : Nat} {t : TypeId} {cs : List Value} (h : OwnV w g t cs) {i : Nat} {u : Value} (hi : cs[i]? = some u) : w.cell? ⟨g, i, none⟩ = some u := by
  have hl : i < cs.length := (List.getElem?_eq_some_iff.1 hi).1
  rw [h.cell hl, (List.getElem?_eq_some_iff.1 hi).2]

theorem cell_set {w : World} {g b o i : Nat} (u : Value) (h : b ≠ g) : (w.setCell ⟨g, i, none⟩ u).cell? ⟨b, o, none⟩ = w.cell? ⟨b, o, none⟩ :=
  World.cell?_of_block (w := w) (a := ⟨b, o, none⟩) (Below.heap_setCell _ _ _ _ h)
theorem rd_set {v wr : World} {T : Option Addr} {ts : List Int} (h : Rd v T ts) (h' : Rd wr T ts) (p : Nat) (u : Value) : Rd (wr.setCell ⟨v.heap.size, p, none⟩ u) T ts := by
  intro hne
  obtain ⟨b, o, rfl, hlt, _⟩ := h hne
  obtain ⟨b2, o2, e, hlt2, hc⟩ := h' hne
  cases e
  exact ⟨b, o, rfl, by simpa [World.setCell] using hlt2, fun i hi => (cell_set u (by omega)).trans (hc i hi)⟩

end Go.Proofs.Ytdhehffdddbmbab
