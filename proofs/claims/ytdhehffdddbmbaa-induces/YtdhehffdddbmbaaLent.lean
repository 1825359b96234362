/-
  Lent: Same, lent, whole: lists that the statement owns.
-/
import Derived.Test.YtdhehffdddbmbaaBase
import Derived.Laws.CopyOwn
namespace Go.Proofs.Ytdhehffdddbmbaa
open Go.RowKit

theorem same_step {xs ys : List Int} (n : Nat) (hl : xs.length = ys.length) (hn : n < xs.length) (h : xs.take n = ys.take n) (he : xs[n] = ys[n]'(by omega)) : xs.take (n + 1) = ys.take (n + 1) := by
  rw [List.take_succ_eq_append_getElem hn, List.take_succ_eq_append_getElem (by omega), h, he]

theorem same_yes {xs ys : List Int} (hl : xs.length = ys.length) (h : xs.take xs.length = ys.take xs.length) : (xs == ys) = true := by
  rw [List.take_length, hl, List.take_length] at h
  simp [h]

theorem same_no {xs ys : List Int} (n : Nat) (hn : n < xs.length) (hy : n < ys.length) (he : xs[n] ≠ ys[n]) : (xs == ys) = false := by
  rw [beq_eq_false_iff_ne]
  rintro rfl
  exact he rfl

set_option maxHeartbeats 400000 in
theorem same_any (a a' : Option Addr) (cap cap' : Nat) (xs ys : List Int) (w : World) (hr : Rd w a xs) (hr' : Rd w a' ys) (hl : xs.length ≤ maxLen) (hl' : ys.length ≤ maxLen) :
    Calls Try.prog 23 #[.slice a xs.length cap, .slice a' ys.length cap'] w fun e w' => e = .returned (.bool (xs == ys)) ∧ ∃ q, w' = w.drewN q := by
  unfold maxLen at hl hl'
  by_cases hlen : xs.length = ys.length
  · go_enter Try.func23, Try.ntmps23
    go_wp2
    go_loopw [5] (fun i wr => ∃ n q : Nat, n ≤ ys.length ∧ xs.take n = ys.take n ∧ i = .int .i64 n ∧ wr = w.drewN q) (fun i _ => ys.length - (intOf i).toNat)
    case atStart => exact ⟨0, 0, Nat.zero_le _, rfl, rfl, rfl⟩
    case round =>
      obtain ⟨n, q, hn, ht, rfl, rfl⟩ := hrel
      have HT := Hid.mk' ht
      have HL := Hid.mk' hlen
      clear ht
      by_cases hlt : n < ys.length
      · obtain ⟨b, off, rfl, hb, hc⟩ := hr.at (i := n) (by omega)
        obtain ⟨b', off', rfl, hb', hc'⟩ := hr'.at hlt
        have hx : n < xs.length := by omega
        have hc1 := hc n hx
        have hc2 := hc' n hlt
        clear hc hr hc' hr'
        by_cases he : xs[n] = ys[n]
        · have HS := Hid.mk' (same_step n HL.out hx HT.out he)
          have hbe : (xs[n] != ys[n]) = false := by simp [he]
          clear he
          go_wp2
          go_quiet (fail)
          go_wp2
          go_roundw
          case rel => exact ⟨n + 1, _, by omega, HS.out, by go_num, rfl⟩
          case measure => simp [intOf]; omega
        · have HS := Hid.mk' (same_no n hx hlt he)
          have hbe : (xs[n] != ys[n]) = true := by simp [he]
          clear he
          go_wp2
          go_quiet (fail)
          go_wp2
          go_ret
          exact ⟨ret_bool HS.out.symm, qt2 _ _ _⟩
      · have HS := Hid.mk' (same_yes (xs := xs) (ys := ys) HL.out (by have : n = xs.length := by omega
                                                                      rw [← this]; exact HT.out))
        go_wp2
        go_ret
        exact ⟨ret_bool HS.out.symm, _, rfl⟩
  · have HS := Hid.mk' (show (xs == ys) = false by rw [beq_eq_false_iff_ne]; rintro rfl; exact hlen rfl)
    have hb : ((xs.length : Int) != (ys.length : Int)) = true := by simp; omega
    clear hlen
    go_enter Try.func23, Try.ntmps23
    go_wp2
    go_ret
    exact ⟨ret_bool HS.out.symm, 0, rfl⟩

/-- Two lists that read the same. -/
theorem same_eq (a a' : Option Addr) (len len' cap cap' : Nat) (ys : List Int) (w : World) (hr : Rd w a ys) (hr' : Rd w a' ys) (hl : ys.length ≤ maxLen) (h : ys.length = len) (h' : ys.length = len') :
    Calls Try.prog 23 #[.slice a len cap, .slice a' len' cap'] w fun e w' => e = .returned (.bool true) ∧ ∃ q, w' = w.drewN q := by
  subst h; subst h'
  have := same_any a a' cap cap' ys ys w hr hr' hl hl
  rwa [beq_self_eq_true] at this

theorem made_row {w w0 : World} {n : Nat} (h : w0.ownsRow w.heap.size 3 1 (.slice (some ⟨w.heap.size, 0, none⟩) n n) n (madeCells #[Value.int .i64 0] n).toList) (hg : w.grownBy w0 none) :
    Own w0 w.heap.size (List.replicate n 0) ∧ Below w.heap.size w w0 ∧ w.heap.size < w0.heap.size := by
  rw [toList_madeCells_one] at h
  have ho : Own w0 w.heap.size (List.replicate n 0) := Own.of_row (n := n) (by simpa using h)
  exact ⟨ho, (Below.refl _ _).grown hg (Nat.le_refl _) (fun k h => by cases h), ho.lt⟩

theorem copy_row {w : World} {a : Option Addr} {xs : List Int} {g cap dcap : Nat} {ys : List Int} (ho : Own w g (ys ++ [0, 0])) (hy : ys.length = xs.length) (hr : Rd w a xs) :
    ∃ w1, (∀ ty, (Builtin.copy_ #[22, 22] ty #[.slice (some ⟨g, 0, none⟩) (xs.length + 2) dcap, .slice a xs.length cap]).run Try.prog w = .ok (goInt xs.length) w1) ∧ Own w1 g (xs ++ [0, 0]) ∧ Below g w w1 ∧ w1.heap.size = w.heap.size := by
  by_cases hx : xs = []
  · subst hx
    obtain rfl : ys = [] := List.eq_nil_of_length_eq_zero hy
    exact ⟨w, fun ty => run_copy_none w _ _ ty 3 _ _ _ _ _ _ Try.underlying22 (by kernel_rfl) (by simp), ho, Below.refl _ _, rfl⟩
  · obtain ⟨b, off, rfl, hb, hc⟩ := hr hx
    have hadd : ∀ j, (⟨b, off, none⟩ : Addr).add j = ⟨b, off + j, none⟩ := fun j => by unfold Addr.add; split <;> simp_all
    refine ⟨w.setRow g ((xs ++ [0, 0]).map (Value.int .i64)).toArray, fun ty => ?_, ?_, ?_, ?_⟩
    · have hrun := run_copy_row Try.prog w 22 22 ty 3 g 0 (xs.length + 2) dcap ⟨b, off, none⟩ xs.length cap _ 3 (xs.map (Value.int .i64)) Try.underlying22 (by kernel_rfl) ho (by simp) ?_ ?_ ?_
      · rw [hrun]
        simp [hy]
      · intro j v hv
        simp at hv
        obtain ⟨x, hx1, rfl⟩ := hv
        have hj : j < xs.length := (List.getElem?_eq_some_iff.1 hx1).1
        rw [hadd, hc j hj]
        simp [List.getD, hx1]
      · simp [hy]
      · intro v hv
        simp at hv
        obtain ⟨x, _, rfl⟩ := hv
        rfl
    · exact setRow_heap w g _ _ _ _ ho
    · exact below_setRow (Below.refl _ _) (Nat.le_refl _) _
    · simp [World.setRow]

theorem set_tail (xs : List Int) : ((xs ++ [0, 0]).set xs.length 77).set (xs.length + 1) 77 = xs ++ [77, 77] := by simp

set_option maxHeartbeats 400000 in
theorem lent_any (a : Option Addr) (cap : Nat) (xs : List Int) (w : World) (hr : Rd w a xs) (hl : xs.length ≤ 1073741824) :
    Calls Try.prog 15 #[.slice a xs.length cap] w fun e w' => e = .returned (.slice (some ⟨w.heap.size, 0, none⟩) xs.length (xs.length + 2)) ∧ Own w' w.heap.size (xs ++ [77, 77]) ∧ Below w.heap.size w w' ∧ w.heap.size < w'.heap.size := by
  obtain ⟨i0, hi, hz0, hz1, hz2⟩ := info_parts Try.info3
  go_enter Try.func15, Try.ntmps15
  go_wp2_with (at_make; refine wpList_make_full _ rfl _ _ 22 rfl w.heap.size 3 i0 (.int .i64 0) 1 Try.underlying22 hi hz0 hz1 _ _ _ _ (xs.length + 2) rfl rfl (by omega) (by omega) ?b2 ?b3 (Nat.le_refl _) ?_)
  case b2 => rw [hz2]; omega
  case b3 => unfold maxLen; omega
  intro w0 hown0 hgrow0
  obtain ⟨ho, hb0, hs0⟩ := made_row hown0 hgrow0
  clear hown0 hgrow0
  have hr0 := hr.below hb0
  rw [show List.replicate (xs.length + 2) (0 : Int) = List.replicate xs.length 0 ++ [0, 0] by simp [List.replicate_succ', List.append_assoc]] at ho
  obtain ⟨w1, hrun, ho1, hb1, hs1⟩ := copy_row (cap := cap) (dcap := xs.length + 2) ho (by simp) hr0
  have hbw : Below w.heap.size w w1 := hb0.trans hb1
  have hsz : w.heap.size < w1.heap.size := by omega
  have hcA := ho1.cell (i := xs.length) (by simp)
  have hfA := ho1.frozen xs.length
  have hcB := ho1.cell (i := xs.length + 1) (by simp)
  have hfB := ho1.frozen (xs.length + 1)
  have HO := Hid.mk' ho1
  clear ho hb0 hs0 hb1 hs1 hr0 hr ho1
  go_wp2
  go_ret
  have ho2 := (HO.out.set xs.length 77).set (xs.length + 1) 77
  rw [set_tail] at ho2
  exact ⟨rfl, ho2, (hbw.setCell (Nat.le_refl _) _).setCell (Nat.le_refl _) _, ho2.lt⟩

set_option maxHeartbeats 400000 in
theorem whole_any (g : Nat) (a : Option Addr) (cap : Nat) (xs : List Int) (w : World) (ho : Own w g (xs ++ [77, 77])) (hr : Rd w a xs) (hl : xs.length ≤ 1073741824) :
    Calls Try.prog 18 #[.slice (some ⟨g, 0, none⟩) xs.length (xs.length + 2), .slice a xs.length cap] w fun e w' => e = .returned (.bool true) ∧ ∃ q, w' = w.drewN q := by
  have hcA := ho.cell (i := xs.length) (by simp)
  have hcB := ho.cell (i := xs.length + 1) (by simp)
  have hro : Rd w (some ⟨g, 0, none⟩) xs := by simpa using ho.rd.take xs.length
  go_enter Try.func18, Try.ntmps18
  go_wp2_with fail
  refine (same_any _ _ _ _ xs xs _ hro hr (by unfold maxLen; omega) (by unfold maxLen; omega)).mono ?_
  rintro e w' ⟨rfl, q, rfl⟩
  rw [beq_self_eq_true]
  go_wp2
  go_ret
  exact ⟨rfl, q, rfl⟩

end Go.Proofs.Ytdhehffdddbmbaa
