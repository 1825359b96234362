/-
  Dense: the walks of Dense and Buckets, of the program and of the document's answer.
-/
import Derived.Test.YtdhehffdddbmbaaScan
import Derived.Test.YtdhehffdddbmbaaMine
import Derived.Test.YtdhehffdddbmbaaMBase
namespace Go.Proofs.Ytdhehffdddbmbaa
open Go.RowKit

theorem cl_step {xs : List Int} {n : Nat} (h : n < xs.length) (v : Int) : cl (xs.take (n + 1)) v = cl (xs.take n) v + if xs[n] < v then 1 else 0 := by
  rw [take_snoc h, cl_snoc]
theorem lab_step {xs : List Int} {n : Nat} (h : n < xs.length) (f : Int) : labTo (xs.take (n + 1)) f = if f < xs[n] ∧ (labTo (xs.take n) f < 0 ∨ xs[n] < labTo (xs.take n) f) then xs[n] else labTo (xs.take n) f := by
  rw [take_snoc h, labTo_snoc]
theorem cl_take_le (xs : List Int) (n : Nat) (v : Int) : cl (xs.take n) v ≤ n := Nat.le_trans (cl_le _ _) (List.length_take_le _ _)

set_option maxHeartbeats 400000 in
theorem countLesser_any (a : Option Addr) (cap : Nat) (xs : List Int) (v : Int) (w : World) (hr : Rd w a xs) (hl : xs.length ≤ maxLen) :
    Calls Try.prog 68 #[.slice a xs.length cap, .int .i64 v] w fun e w' => e = .returned (.int .i64 (cl xs v)) ∧ w' = w := by
  unfold maxLen at hl
  go_enter Try.func68, Try.ntmps68
  go_wp2
  go_loop [5, 6] (fun c i => ∃ n : Nat, n ≤ xs.length ∧ i = .int .i64 n ∧ c = .int .i64 (cl (xs.take n) v)) (fun _ i => xs.length - (intOf i).toNat)
  case atStart => exact ⟨0, Nat.zero_le _, rfl, rfl⟩
  case round =>
    obtain ⟨n, hn, rfl, rfl⟩ := hrel
    have hcl := cl_take_le xs n v
    by_cases hlt : n < xs.length
    · obtain ⟨b, off, rfl, hb, hc⟩ := hr.at hlt
      have hc1 := hc n hlt
      clear hc hr
      have HS := Hid.mk' (cl_step hlt v)
      by_cases h0 : xs[n] < v
      · go_wp2
        go_round
        case rel => exact ⟨n + 1, by omega, by go_num, by rw [HS.out, if_pos h0]; go_num⟩
        case measure => simp [intOf]; omega
      · go_wp2
        go_round
        case rel => exact ⟨n + 1, by omega, by go_num, by rw [HS.out, if_neg (by omega)]; go_num⟩
        case measure => simp [intOf]; omega
    · go_wp2
      go_ret
      exact ⟨ret_int (by rw [List.take_of_length_le (by omega)]), rfl⟩

set_option maxHeartbeats 400000 in
theorem leastAbove_any (a : Option Addr) (cap : Nat) (xs : List Int) (f : Int) (w : World) (hr : Rd w a xs) (hl : xs.length ≤ maxLen) :
    Calls Try.prog 69 #[.slice a xs.length cap, .int .i64 f] w fun e w' => e = .returned (.int .i64 (labTo xs f)) ∧ w' = w := by
  unfold maxLen at hl
  go_enter Try.func69, Try.ntmps69
  go_wp2
  go_loop [5, 6] (fun c i => ∃ n : Nat, n ≤ xs.length ∧ i = .int .i64 n ∧ c = .int .i64 (labTo (xs.take n) f)) (fun _ i => xs.length - (intOf i).toNat)
  case atStart => exact ⟨0, Nat.zero_le _, rfl, rfl⟩
  case round =>
    obtain ⟨n, hn, rfl, rfl⟩ := hrel
    by_cases hlt : n < xs.length
    · obtain ⟨b, off, rfl, hb, hc⟩ := hr.at hlt
      have hc1 := hc n hlt
      clear hc hr
      have HS := Hid.mk' (lab_step hlt f)
      by_cases h0 : f < xs[n]
      · by_cases h1 : labTo (xs.take n) f < 0
        · go_wp2
          go_round
          case rel => exact ⟨n + 1, by omega, by go_num, by rw [HS.out, if_pos ⟨h0, .inl h1⟩]⟩
          case measure => simp [intOf]; omega
        · by_cases h2 : xs[n] < labTo (xs.take n) f
          · go_wp2
            go_round
            case rel => exact ⟨n + 1, by omega, by go_num, by rw [HS.out, if_pos ⟨h0, .inr h2⟩]⟩
            case measure => simp [intOf]; omega
          · go_wp2
            go_round
            case rel => exact ⟨n + 1, by omega, by go_num, by rw [HS.out, if_neg (by omega)]⟩
            case measure => simp [intOf]; omega
      · go_wp2
        go_round
        case rel => exact ⟨n + 1, by omega, by go_num, by rw [HS.out, if_neg (by omega)]⟩
        case measure => simp [intOf]; omega
    · go_wp2
      go_ret
      exact ⟨ret_int (by rw [List.take_of_length_le (by omega)]), rfl⟩

set_option maxHeartbeats 400000 in
theorem in_any (a : Option Addr) (cap : Nat) (xs : List Int) (v : Int) (w : World) (hr : Rd w a xs) (hl : xs.length ≤ maxLen) :
    Calls Try.prog 70 #[.slice a xs.length cap, .int .i64 v] w fun e w' => e = .returned (.bool (decide (v ∈ xs))) ∧ w' = w := by
  unfold maxLen at hl
  go_enter Try.func70, Try.ntmps70
  go_wp2
  go_loop [5] (fun i => ∃ n : Nat, n ≤ xs.length ∧ i = .int .i64 n ∧ ¬ v ∈ xs.take n) (fun i => xs.length - (intOf i).toNat)
  case atStart => exact ⟨0, Nat.zero_le _, rfl, by simp⟩
  case round =>
    obtain ⟨n, hn, rfl, hm⟩ := hrel
    by_cases hlt : n < xs.length
    · obtain ⟨b, off, rfl, hb, hc⟩ := hr.at hlt
      have hc1 := hc n hlt
      clear hc hr
      by_cases h0 : xs[n] = v
      · have HS := Hid.mk' (show v ∈ xs from h0 ▸ List.getElem_mem hlt)
        have hb0 : (xs[n] == v) = true := by simp [h0]
        clear h0 hm
        go_wp2
        go_ret
        exact ⟨ret_bool (by simp [HS.out]), rfl⟩
      · have HS := Hid.mk' (show ¬ v ∈ xs.take (n + 1) by rw [take_snoc hlt]; simp only [List.mem_append, List.mem_singleton]; exact fun h => h.elim hm (fun e => h0 e.symm))
        have hb0 : (xs[n] == v) = false := by simp [h0]
        clear h0 hm
        go_wp2
        go_round
        case rel => exact ⟨n + 1, by omega, by go_num, HS.out⟩
        case measure => simp [intOf]; omega
    · rw [List.take_of_length_le (by omega)] at hm
      have HS := Hid.mk' hm
      clear hm
      go_wp2
      go_ret
      exact ⟨ret_bool (by simp [HS.out]), rfl⟩

/-- The length of a slice value: for measures. -/
def slLen : Value → Nat | .slice _ n _ => n | _ => 0

theorem rd_of_owns {w : World} {B g n cap : Nat} {l : List Int} (h : w.ownsRow B 3 1 (.slice (some ⟨g, 0, none⟩) n cap) n (l.map (Value.int .i64))) : Rd w (some ⟨g, 0, none⟩) l := by
  intro hl
  have hc := h.cells (g := g) rfl
  have hlt : g < w.heap.size := by
    rcases h.2 with ⟨hv, _⟩ | ⟨g', cap', cur, hv, _, hg, _⟩
    · cases hv
    · cases hv; exact (Array.getElem?_eq_some_iff.1 hg).1
  refine ⟨g, 0, rfl, hlt, fun i hi => ?_⟩
  have := hc i (.int .i64 l[i]) (by simp [hi])
  rw [show (⟨g, 0, none⟩ : Addr).add i = ⟨g, 0 + i, none⟩ by unfold Addr.add; split <;> simp_all] at this
  rw [this]
  simp [List.getD, hi]

set_option maxHeartbeats 800000 in
set_option maxRecDepth 100000 in
theorem alphabet_any (a : Option Addr) (cap : Nat) (xs : List Int) (w : World) (hr : Rd w a xs) (hl : xs.length ≤ 1073741824) (h0 : ∀ x ∈ xs, 0 ≤ x) :
    Calls Try.prog 46 #[.slice a xs.length cap] w fun e w' => ∃ l, Alpha xs l ∧ e = .returned (.slice (some ⟨w.heap.size, 0, none⟩) l.length xs.length) ∧ Rd w' (some ⟨w.heap.size, 0, none⟩) l ∧ Below w.heap.size w w' ∧ w.heap.size < w'.heap.size := by
  obtain ⟨i0, hi, hz0, hz1, hz2⟩ := info_parts Try.info3
  have hml : xs.length ≤ maxLen := by unfold maxLen; omega
  have HA := Hid.mk' (AlTo.start xs h0)
  clear h0
  go_enter Try.func46, Try.ntmps46
  go_wp2_with (at_make; refine wpList_make_own _ rfl _ _ 22 rfl w.heap.size 3 i0 (.int .i64 0) 1 Try.underlying22 hi hz0 hz1 _ _ _ xs.length rfl rfl (by omega) ?b2 hml (Nat.le_refl _) ?_)
  case b2 => rw [hz2]; omega
  intro w0 hown0 hgrow0
  have hb0 : Below w.heap.size w w0 := (Below.refl _ _).grown hgrow0 (Nat.le_refl _) (fun k h => by cases h)
  have hr0 := hr.below hb0
  go_wp2_with fail
  refine (leastAbove_any _ _ xs _ _ hr0 hml).mono ?_
  rintro e w1 ⟨rfl, rfl⟩
  clear hr0
  go_wp2
  go_loopw [3, 4] (fun sy s wr => ∃ (l : List Int) (f : Int), Hid (AlTo xs l f) ∧ -1 ≤ f ∧ s = .int .i64 (labTo xs f) ∧ sy = .slice (some ⟨w.heap.size, 0, none⟩) l.length xs.length ∧
      wr.ownsRow w.heap.size 3 1 (.slice (some ⟨w.heap.size, 0, none⟩) l.length xs.length) l.length (l.map (Value.int .i64)) ∧ Below w.heap.size w wr)
    (fun sy _ _ => xs.length - slLen sy)
  case atStart => exact ⟨[], -1, HA, by omega, rfl, rfl, hown0, hb0⟩
  case round =>
    obtain ⟨l, f, HT, hf, rfl, rfl, hown, hnx⟩ := hrel
    have hrr := hr.below hnx
    clear hown0 hgrow0 hb0 HA
    rcases lab_all f hf xs with ⟨h1, h2⟩ | ⟨h1, h2, h3, h4⟩
    · have HD := Hid.mk' (HT.out.done h2)
      clear h2 HT
      go_wp2
      go_ret
      exact ⟨l, HD.out, rfl, rd_of_owns hown, hnx, by
        rcases hown.2 with ⟨hv, _⟩ | ⟨g', cap', cur, hv, _, hg, _⟩
        · cases hv
        · cases hv; exact (Array.getElem?_eq_some_iff.1 hg).1⟩
    · have HS := Hid.mk' (HT.out.step h2 h3 h4)
      have hlen : l.length + 1 ≤ xs.length := by simpa using HS.out.length_le
      clear h2 h4 HT
      go_wp2_with (at_builtin; refine wpList_append_fits _ rfl _ _ 22 rfl w.heap.size 3 i0 1 Try.underlying22 hi hz1 w.heap.size l.length xs.length _ rfl (hown.alloc _) ⟨wr.heap.size, 0, none⟩ 1 1 [.int .i64 (labTo xs f)] rfl rfl (by intro t u ht; match t, ht with | 0, ht => simp at ht; subst ht; simp [Addr.add]) (by intro u hu; simp at hu; subst hu; rfl) (by omega) ?_; intro w2 hown2 hgrow2)
      have hn2 : Below w.heap.size w w2 := (hnx.alloc hnx.size _).grown hgrow2 (by simp; have := hnx.size; omega) (fun k hk => by cases hk; exact Nat.le_refl _)
      have hr2 := hr.below hn2
      refine (leastAbove_any _ _ xs _ _ hr2 hml).mono ?_
      rintro e w3 ⟨rfl, rfl⟩
      clear hr2 hown hnx hgrow2 hrr
      go_wp2
      go_roundw
      case rel => exact ⟨l ++ [labTo xs f], labTo xs f, HS.out, by omega, rfl, by simp, by simpa using hown2, hn2⟩
      case measure => simp [slLen]; omega

/-- What a call made: blocks from B on; 'g' is the row of its answer. -/
theorem dense_step {f : Int → Int} {xs ds : List Int} {n : Nat} (hn : n < xs.length) (hd : ds.length = xs.length) (h : ds.take n = (xs.take n).map f) : (ds.set n (f xs[n])).take (n + 1) = (xs.take (n + 1)).map f := by
  rw [List.take_succ_eq_append_getElem (by simp; omega), take_snoc hn, List.map_append, ← h]
  simp [List.take_set_of_le]

set_option maxHeartbeats 800000 in
set_option maxRecDepth 100000 in
theorem textsDense_any (a : Option Addr) (cap : Nat) (xs : List Int) (w : World) (hr : Rd w a xs) (hl : xs.length ≤ 1073741824) (h0 : ∀ x ∈ xs, 0 ≤ x) :
    Calls Try.prog 45 #[.slice a xs.length cap] w fun e w' => ∃ g, w.heap.size ≤ g ∧ e = .returned (.slice (some ⟨g, 0, none⟩) xs.length xs.length) ∧ Own w' g (dense xs) ∧ Below w.heap.size w w' := by
  obtain ⟨i0, hi, hz0, hz1, hz2⟩ := info_parts Try.info3
  have hml : xs.length ≤ maxLen := by unfold maxLen; omega
  go_enter Try.func45, Try.ntmps45
  go_wp2_with fail
  refine (alphabet_any _ _ xs _ hr hl h0).mono ?_
  rintro e w1 ⟨l, hA, rfl, hrl, hb1, hs1⟩
  have HA := Hid.mk' hA
  have hll := hA.length_le
  clear hA h0
  go_wp2_with (at_make; refine wpList_make_full _ rfl _ _ 22 rfl w1.heap.size 3 i0 (.int .i64 0) 1 Try.underlying22 hi hz0 hz1 _ _ _ _ xs.length rfl rfl (by omega) (by omega) ?b2 hml (Nat.le_refl _) ?_)
  case b2 => rw [hz2]; omega
  intro w2 hown0 hgrow0
  obtain ⟨ho, hb2, hs2⟩ := made_row hown0 hgrow0
  clear hown0 hgrow0
  go_wp2
  go_loopw [5] (fun i wr => ∃ (n : Nat) (ds : List Int), n ≤ xs.length ∧ i = .int .i64 n ∧ ds.length = xs.length ∧ ds.take n = (xs.take n).map (fun x => (cl l x : Int)) ∧ Own wr w1.heap.size ds ∧ Below w1.heap.size w1 wr) (fun i _ => xs.length - (intOf i).toNat)
  case atStart => exact ⟨0, _, Nat.zero_le _, rfl, by simp, rfl, ho, hb2⟩
  case round =>
    obtain ⟨n, ds, hn, rfl, hd, ht, hod, hbr⟩ := hrel
    have hrr := (hr.below hb1).below hbr
    have hrl2 := hrl.below hbr
    clear ho hb2 hs2 hr hrl
    by_cases hlt : n < xs.length
    · obtain ⟨b, off, rfl, hb, hc⟩ := hrr.at hlt
      have hc1 := hc n hlt
      have hc2 := hod.cell (i := n) (by omega)
      have hf2 := hod.frozen n
      have R := Hid.mk' (And.intro (dense_step (f := fun x => (cl l x : Int)) hlt hd ht) (And.intro (hod.set n (cl l xs[n] : Int)) (And.intro (hbr.setCell (p := ⟨w1.heap.size, n, none⟩) (Nat.le_refl _) (.int .i64 (cl l xs[n] : Int))) hd)))
      clear hc ht hod hbr hd hrr
      go_wp2_with fail
      refine (countLesser_any _ _ l _ _ hrl2 (by omega)).mono ?_
      rintro e w3 ⟨rfl, rfl⟩
      go_wp2
      go_roundw
      case rel => exact ⟨n + 1, _, by omega, by go_num, by simpa using R.out.2.2.2, R.out.1, R.out.2.1, R.out.2.2.1⟩
      case measure => simp [intOf]; omega
    · have R := Hid.mk' (And.intro ht (And.intro hod (And.intro hbr hd)))
      clear ht hod hbr hd hrr hrl2
      go_wp2
      go_ret
      obtain ⟨ht, hod, hbr, hd⟩ := R.out
      rw [List.take_of_length_le (by omega), List.take_of_length_le (by omega), ← HA.out.dense] at ht
      subst ht
      exact ⟨w1.heap.size, hb1.size, rfl, hod, hb1.trans (hbr.mono hb1.size)⟩

set_option maxHeartbeats 800000 in
set_option maxRecDepth 100000 in
theorem textsBuckets_any (a : Option Addr) (cap : Nat) (xs : List Int) (w : World) (hr : Rd w a xs) (hl : xs.length ≤ 1073741824) (h0 : ∀ x ∈ xs, 0 ≤ x) :
    Calls Try.prog 47 #[.slice a xs.length cap] w fun e w' => ∃ g, w.heap.size ≤ g ∧ e = .returned (.slice (some ⟨g, 0, none⟩) (buckets xs).length (buckets xs).length) ∧ Own w' g (buckets xs) ∧ Below w.heap.size w w' := by
  obtain ⟨i0, hi, hz0, hz1, hz2⟩ := info_parts Try.info3
  have hml : xs.length ≤ maxLen := by unfold maxLen; omega
  go_enter Try.func47, Try.ntmps47
  go_wp2_with fail
  refine (alphabet_any _ _ xs _ hr hl h0).mono ?_
  rintro e w1 ⟨l, hA, rfl, hrl, hb1, hs1⟩
  have HA := Hid.mk' hA
  have hll := hA.length_le
  clear hA h0
  go_wp2_with (at_make; refine wpList_make_full _ rfl _ _ 22 rfl w1.heap.size 3 i0 (.int .i64 0) 1 Try.underlying22 hi hz0 hz1 _ _ _ _ (l.length + 1) rfl rfl (by omega) (by omega) ?b2 ?b3 (Nat.le_refl _) ?_)
  case b2 => rw [hz2]; omega
  case b3 => unfold maxLen; omega
  intro w2 hown0 hgrow0
  obtain ⟨ho, hb2, hs2⟩ := made_row hown0 hgrow0
  clear hown0 hgrow0
  go_wp2
  go_loopw [5] (fun i wr => ∃ (n : Nat) (ds : List Int), n ≤ l.length ∧ i = .int .i64 n ∧ ds.length = l.length ∧ ds.take n = (l.take n).map (fun x => (cl xs x : Int)) ∧ Own wr w1.heap.size (ds ++ [0]) ∧ Below w1.heap.size w1 wr) (fun i _ => l.length - (intOf i).toNat)
  case atStart => exact ⟨0, List.replicate l.length 0, Nat.zero_le _, rfl, by simp, rfl, by rw [← List.replicate_succ']; exact ho, hb2⟩
  case round =>
    obtain ⟨n, ds, hn, rfl, hd, ht, hod, hbr⟩ := hrel
    have hrr := (hr.below hb1).below hbr
    have hrl2 := hrl.below hbr
    clear ho hb2 hs2 hr hrl
    by_cases hlt : n < l.length
    · have hc1 := hrl2.cell hlt
      rw [Nat.zero_add] at hc1
      have hc2 := hod.cell (i := n) (by simp; omega)
      have hf2 := hod.frozen n
      have hset := hod.set n (cl xs l[n] : Int)
      rw [List.set_append_left n _ (by omega)] at hset
      have R := Hid.mk' (And.intro (dense_step (f := fun x => (cl xs x : Int)) hlt hd ht) (And.intro hset (And.intro (hbr.setCell (p := ⟨w1.heap.size, n, none⟩) (Nat.le_refl _) (.int .i64 (cl xs l[n] : Int))) hd)))
      clear hset ht hod hbr hd hrl2
      go_wp2_with fail
      refine (countLesser_any _ _ xs _ _ hrr hml).mono ?_
      rintro e w3 ⟨rfl, rfl⟩
      go_wp2
      go_roundw
      case rel => exact ⟨n + 1, _, by omega, by go_num, by simpa using R.out.2.2.2, R.out.1, R.out.2.1, R.out.2.2.1⟩
      case measure => simp [intOf]; omega
    · have hc2 := hod.cell (i := l.length) (by simp; omega)
      have hf2 := hod.frozen l.length
      have hset := hod.set l.length (xs.length : Int)
      rw [List.set_append_right l.length _ (by omega), hd, Nat.sub_self] at hset
      have R := Hid.mk' (And.intro ht (And.intro hset (And.intro (hbr.setCell (p := ⟨w1.heap.size, l.length, none⟩) (Nat.le_refl _) (.int .i64 (xs.length : Int))) hd)))
      clear hset ht hod hbr hd hrr hrl2
      go_wp2
      go_ret
      obtain ⟨ht, hset, hbr, hd⟩ := R.out
      rw [List.take_of_length_le (by omega), List.take_of_length_le (by omega)] at ht
      have hB := HA.out.buckets
      rw [← ht] at hB
      refine ⟨w1.heap.size, hb1.size, ?_, by rw [hB]; exact hset, hb1.trans (hbr.mono hb1.size)⟩
      rw [hB]
      simp only [List.length_append, List.length_singleton, hd]
      rfl

/-- What a text without fault is. -/
theorem scan_zero {xs : List Int} {k : Int} (h : scanE xs k = 0) : xs.length ≤ 96 ∧ (∀ x ∈ xs, 0 ≤ x) ∧ ∀ x ∈ xs, x < k := by
  unfold scanE at h
  by_cases h1 : k < 1
  · simp [h1] at h
  · by_cases h2 : 96 < xs.length
    · simp [h1, h2] at h
    · by_cases h3 : firstOut xs k < xs.length
      · simp [h1, h2, h3] at h
      · have ha : ∀ x ∈ xs, 0 ≤ x ∧ x < k := by
          intro x hx
          obtain ⟨i, hi, rfl⟩ := List.getElem_of_mem hx
          have hlt : i < List.findIdx (fun x => decide (x < 0) || decide (k ≤ x)) xs := by unfold firstOut at h3; omega
          have := List.not_of_lt_findIdx hlt
          simp at this
          omega
        exact ⟨by omega, fun x hx => (ha x hx).1, fun x hx => (ha x hx).2⟩

set_option maxHeartbeats 400000 in
theorem denseErr_any (a : Option Addr) (cap : Nat) (xs : List Int) (k : Int) (w : World) (hr : Rd w a xs) (hl : xs.length ≤ maxLen) (h : scanE xs k ≠ 0) :
    Calls Try.prog 19 #[.slice a xs.length cap, .int .i64 k] w fun e w' => e = .returned (.tuple #[.slice none 0 0, .int .i64 0, .int .i64 (scanE xs k)]) ∧ w' = w := by
  have hb : (scanE xs k != 0) = true := by simpa using h
  clear h
  go_enter Try.func19, Try.ntmps19
  go_wp2_with (go_at_call 44; refine (fault_any a cap xs k _ hr hl).mono ?_; rintro e w' ⟨rfl, rfl⟩)
  go_ret3
  exact ⟨rfl, rfl⟩

set_option maxHeartbeats 400000 in
theorem denseOk_any (a : Option Addr) (cap : Nat) (xs : List Int) (k : Int) (w : World) (hr : Rd w a xs) (h : scanE xs k = 0) :
    Calls Try.prog 19 #[.slice a xs.length cap, .int .i64 k] w fun e w' => ∃ g, w.heap.size ≤ g ∧ e = .returned (.tuple #[.slice (some ⟨g, 0, none⟩) xs.length xs.length, .int .i64 (kinds xs), .int .i64 0]) ∧ Own w' g (dense xs) ∧ Below w.heap.size w w' := by
  obtain ⟨h96, h0, -⟩ := scan_zero h
  have hl : xs.length ≤ maxLen := by unfold maxLen; omega
  have hb : (scanE xs k != 0) = false := by simpa using h
  have H0 := Hid.mk' h0
  clear h h0
  go_enter Try.func19, Try.ntmps19
  go_wp2_with (go_at_call 44; refine (fault_any a cap xs k _ hr hl).mono ?_; rintro e w' ⟨rfl, rfl⟩)
  refine (textsDense_any a cap xs _ hr (by omega) H0.out).mono ?_
  rintro e w1 ⟨g, hg, rfl, ho, hb1⟩
  have hr1 := hr.below hb1
  go_wp2_with fail
  refine (alphabet_any a cap xs _ hr1 (by omega) H0.out).mono ?_
  rintro e w2 ⟨l, hA, rfl, -, hb2, -⟩
  have HK := Hid.mk' hA.kinds
  clear hA
  go_wp2
  go_ret3
  exact ⟨g, hg, by rw [HK.out]; rfl, ho.below hb2 ho.lt, hb1.trans (hb2.mono hb1.size)⟩

set_option maxHeartbeats 400000 in
theorem bucketsErr_any (a : Option Addr) (cap : Nat) (xs : List Int) (k : Int) (w : World) (hr : Rd w a xs) (hl : xs.length ≤ maxLen) (h : scanE xs k ≠ 0) :
    Calls Try.prog 20 #[.slice a xs.length cap, .int .i64 k] w fun e w' => e = .returned (.tuple #[.slice none 0 0, .int .i64 (scanE xs k)]) ∧ w' = w := by
  have hb : (scanE xs k != 0) = true := by simpa using h
  clear h
  go_enter Try.func20, Try.ntmps20
  go_wp2_with (go_at_call 44; refine (fault_any a cap xs k _ hr hl).mono ?_; rintro e w' ⟨rfl, rfl⟩)
  go_ret2
  exact ⟨rfl, rfl⟩

set_option maxHeartbeats 400000 in
theorem bucketsOk_any (a : Option Addr) (cap : Nat) (xs : List Int) (k : Int) (w : World) (hr : Rd w a xs) (h : scanE xs k = 0) :
    Calls Try.prog 20 #[.slice a xs.length cap, .int .i64 k] w fun e w' => ∃ g, w.heap.size ≤ g ∧ e = .returned (.tuple #[.slice (some ⟨g, 0, none⟩) (buckets xs).length (buckets xs).length, .int .i64 0]) ∧ Own w' g (buckets xs) ∧ Below w.heap.size w w' := by
  obtain ⟨h96, h0, -⟩ := scan_zero h
  have hl : xs.length ≤ maxLen := by unfold maxLen; omega
  have hb : (scanE xs k != 0) = false := by simpa using h
  clear h
  go_enter Try.func20, Try.ntmps20
  go_wp2_with (first | (go_at_call 44; refine (fault_any a cap xs k _ hr hl).mono ?_; rintro e w' ⟨rfl, rfl⟩) | (go_at_call 47; refine (textsBuckets_any a cap xs _ hr (by omega) h0).mono ?_; rintro e w' ⟨g, hg, rfl, ho, hbw⟩))
  go_ret2
  exact ⟨g, hg, rfl, ho, hbw⟩

end Go.Proofs.Ytdhehffdddbmbaa
