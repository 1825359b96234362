/-
  Draw: P8, P13: the walks of the program's drawing in, out of the marks' order.
-/
import Derived.Test.YtpioolbcilfijaaPieces
import Derived.Test.YtpioolbcilfijaaSort
import Derived.Deep.RegionHeld3
namespace Go.Proofs.Ytpioolbcilfijaa
open Go.RowKit

theorem free_step {ds : List Int} {k n : Nat} (hk : k < n) (hl : ds.length = n) (h : ds.take k = List.replicate k (-1)) : (ds.set k (-1)).take (k + 1) = List.replicate (k + 1) (-1) := by
  rw [List.take_add_one, List.getElem?_set_self (by omega), List.take_set_of_le (Nat.le_refl _), h, List.replicate_succ']
  rfl

set_option maxHeartbeats 800000 in
theorem allFree_any (n : Nat) (w : World) (hl : n ≤ 1073741824) :
    Calls Try.prog 101 #[.int .i64 n] w fun e w' => e = .returned (.slice (some ⟨w.heap.size, 0, none⟩) n n) ∧ Own w' w.heap.size (List.replicate n (-1)) ∧ Below w.heap.size w w' := by
  obtain ⟨i0, hi, hz0, hz1, hz2⟩ := info_parts Try.info3
  have hml : n ≤ maxLen := by unfold maxLen; omega
  go_enter Try.func101, Try.ntmps101
  go_wp2_with (at_make; refine wpList_make_full _ rfl _ _ 22 rfl w.heap.size 3 i0 (.int .i64 0) 1 Try.underlying22 hi hz0 hz1 _ _ _ _ n rfl rfl (by omega) (by omega) ?b2 hml (Nat.le_refl _) ?_)
  case b2 => rw [hz2]; omega
  intro w2 hown0 hgrow0
  obtain ⟨ho, hb2, hs2⟩ := made_row hown0 hgrow0
  clear hown0 hgrow0
  go_wp2
  go_loopw [4] (fun i wr => ∃ (k : Nat) (ds : List Int), k ≤ n ∧ i = .int .i64 k ∧ Hid (ds.length = n) ∧ Hid (ds.take k = List.replicate k (-1)) ∧ Hid (Own wr w.heap.size ds) ∧ Hid (Below w.heap.size w wr)) (fun i _ => n - (intOf i).toNat)
  case atStart => exact ⟨0, _, Nat.zero_le _, rfl, by simp [Hid], rfl, ho, hb2⟩
  case round =>
    clear ho hb2 hs2
    obtain ⟨k, ds, hk, rfl, HL, HT, HO, HB⟩ := hrel
    by_cases hlt : k < n
    · obtain ⟨u, hcell⟩ : ∃ u, wr.cell? ⟨w.heap.size, k, none⟩ = some u := ⟨_, HO.out.cell (by rw [HL.out]; exact hlt)⟩
      have hfz := HO.out.frozen k
      have HS := Hid.mk' (free_step hlt HL.out HT.out)
      go_wp2
      go_roundw
      case rel => exact ⟨k + 1, _, by omega, by go_num, by rw [Hid, List.length_set]; exact HL.out, HS, HO.out.set k _, HB.out.setCell (Nat.le_refl _) _⟩
      case measure => simp [intOf]; omega
    · have HE : Hid (ds = List.replicate n (-1)) := by
        have h1 := HT.out
        rw [List.take_of_length_le (by rw [HL.out]; omega), show k = n by omega] at h1
        exact h1
      go_wp2
      go_ret
      exact ⟨rfl, by rw [← HE.out]; exact HO.out, HB.out⟩

theorem copy_row0 {w : World} {a : Option Addr} {xs : List Int} {g cap dcap : Nat} {ys : List Int} (ho : Own w g ys) (hy : ys.length = xs.length) (hr : Rd w a xs) :
    ∃ w1, (∀ ty, (Builtin.copy_ #[22, 22] ty #[.slice (some ⟨g, 0, none⟩) xs.length dcap, .slice a xs.length cap]).run Try.prog w = .ok (goInt xs.length) w1) ∧ Own w1 g xs ∧ Below g w w1 ∧ w1.heap.size = w.heap.size := by
  by_cases hx : xs = []
  · subst hx
    obtain rfl : ys = [] := List.eq_nil_of_length_eq_zero hy
    exact ⟨w, fun ty => run_copy_none w _ _ ty 3 _ _ _ _ _ _ Try.underlying22 (by kernel_rfl) (by simp), ho, Below.refl _ _, rfl⟩
  · obtain ⟨b, off, rfl, hb, hc⟩ := hr hx
    have hadd : ∀ j, (⟨b, off, none⟩ : Addr).add j = ⟨b, off + j, none⟩ := fun j => by unfold Addr.add; split <;> simp_all
    refine ⟨w.setRow g (xs.map (Value.int .i64)).toArray, fun ty => ?_, ?_, ?_, ?_⟩
    · have hrun := run_copy_row Try.prog w 22 22 ty 3 g 0 xs.length dcap ⟨b, off, none⟩ xs.length cap _ 3 (xs.map (Value.int .i64)) Try.underlying22 (by kernel_rfl) ho (by simp) ?_ ?_ ?_
      · rw [hrun, List.drop_eq_nil_of_le (by simp; omega)]
        simp
      · intro j v hv
        simp at hv
        obtain ⟨x, hx1, rfl⟩ := hv
        have hj : j < xs.length := (List.getElem?_eq_some_iff.1 hx1).1
        rw [hadd, hc j hj]
        simp [List.getD, hx1]
      · simp [hy]
      · intro v hv
        simp at hv
        obtain ⟨x, _, rfl⟩ := hv
        rfl
    · exact setRow_heap w g _ _ _ _ ho
    · exact below_setRow (Below.refl _ _) (Nat.le_refl _) _
    · simp [World.setRow]

set_option maxHeartbeats 800000 in
theorem copyOf_any (a : Option Addr) (len cap : Nat) (xs : List Int) (w : World) (hr : Rd w a xs) (hl : xs.length ≤ 1073741824) (hn : xs.length = len) :
    Calls Try.prog 102 #[.slice a len cap] w fun e w' => e = .returned (.slice (some ⟨w.heap.size, 0, none⟩) len len) ∧ Own w' w.heap.size xs ∧ Below w.heap.size w w' := by
  subst hn
  obtain ⟨i0, hi, hz0, hz1, hz2⟩ := info_parts Try.info3
  have hml : xs.length ≤ maxLen := by unfold maxLen; omega
  go_enter Try.func102, Try.ntmps102
  go_wp2_with (at_make; refine wpList_make_full _ rfl _ _ 22 rfl w.heap.size 3 i0 (.int .i64 0) 1 Try.underlying22 hi hz0 hz1 _ _ _ _ xs.length rfl rfl (by omega) (by omega) ?b2 hml (Nat.le_refl _) ?_)
  case b2 => rw [hz2]; omega
  intro w2 hown0 hgrow0
  obtain ⟨ho, hb2, hs2⟩ := made_row hown0 hgrow0
  clear hown0 hgrow0
  obtain ⟨w3, hrun, ho3, hb3, hs3⟩ := copy_row0 (cap := cap) (dcap := xs.length) ho (by simp) (hr.below hb2)
  have R := Hid.mk' (And.intro ho3 (hb2.trans hb3))
  clear ho hb2 hs2 ho3 hb3 hs3 hr
  go_wp2
  go_ret
  exact ⟨rfl, R.out.1, R.out.2⟩

theorem ordMarks_le {xs L : List Int} (hO : Ord xs L) : (ordMarks xs L).length ≤ xs.length := by
  rw [← OrdTo.length hO]; exact List.length_filter_le _ _
theorem ordMarks_at {xs L : List Int} (hO : Ord xs L) {i : Nat} (hi : i < (ordMarks xs L).length) : ∃ p : Nat, (ordMarks xs L).getD i 0 = (p : Int) ∧ p < xs.length := by
  have hm := (mem_ordMarks hO ((ordMarks xs L).getD i 0)).1 (by rw [List.getD, List.getElem?_eq_getElem hi, Option.getD_some]; exact List.getElem_mem hi)
  exact ⟨((ordMarks xs L).getD i 0).toNat, by omega, by omega⟩
theorem ends_length (xs : List Int) : ((buckets xs).drop 1).length = kinds xs := by rw [List.length_drop, buckets_length]; omega

theorem kinds_zero {xs : List Int} (h : kinds xs = 0) : xs = [] := by
  cases xs with
  | nil => rfl
  | cons x r => have := dN_lt (xs := x :: r) (p := 0) (by simp); omega
theorem ord_nil {L : List Int} (h : Ord [] L) : L = [] := List.eq_nil_of_length_eq_zero (OrdTo.length h)

set_option maxHeartbeats 800000 in
theorem layMarks_nil (s : ByteArray) (ad : Option Addr) (gs cd : Nat) (am : Option Addr) (cm : Nat) (w : World) :
    Calls Try.prog 100 #[.agg #[.string s, .slice ad 0 cd, .slice (some ⟨gs, 0, none⟩) 1 1], .slice am 0 cm] w fun e w' => ∃ g, e = .returned (.slice (some ⟨g, 0, none⟩) 0 0) ∧ w.heap.size ≤ g ∧ Own w' g [] ∧ Below w.heap.size w w' := by
  go_enter Try.func100, Try.ntmps100
  go_wp2_with fail
  refine (allFree_any 0 _ (by omega)).mono ?_
  rintro e w1 ⟨rfl, ho1, hb1⟩
  have hsz : ∀ o, (w.alloc o).heap.size = w.heap.size + 1 := fun o => by simp
  rw [hsz] at ho1 hb1
  have hv1 := OwnV.below (owned_alloc w _ _) hb1 (Nat.lt_succ_self _)
  have hb01 := ((Below.refl w.heap.size w).alloc (Nat.le_refl _) _).trans (hb1.mono (Nat.le_succ _))
  have hf2 := hv1.cell (i := 2) (by simp)
  simp only [List.getElem_cons_zero, List.getElem_cons_succ] at hf2
  have hlt1 := ho1.lt
  clear hb1
  go_wp2_with fail
  refine (copyOf_any _ _ _ [] _ (Rd.nil _ _) (by simp) rfl).mono ?_
  rintro e w2 ⟨rfl, ho2, hb2⟩
  have R := Hid.mk' (And.intro (ho1.below hb2 hlt1) (hb01.trans (hb2.mono hb01.size)))
  clear ho1 ho2 hv1 hb01 hb2
  go_wp2
  go_loopw [7] (fun i wr => i = .int .i64 (-1) ∧ Hid (wr = w2)) (fun _ _ => 0)
  case atStart => exact ⟨rfl, rfl⟩
  case round =>
    obtain ⟨rfl, HW⟩ := hrel
    have R2 : Hid (Own wr (w.heap.size + 1) (List.replicate 0 (-1)) ∧ Below w.heap.size w wr) := by rw [HW.out]; exact R
    go_wp2
    go_ret
    exact ⟨w.heap.size + 1, rfl, by omega, R2.out.1, R2.out.2⟩

set_option maxHeartbeats 1600000 in
set_option maxRecDepth 100000 in
theorem layMarks_some (s : ByteArray) (ad : Option Addr) (gs cd : Nat) (am : Option Addr) (cm : Nat) (xs L : List Int) (w : World) (hO : Ord xs L) (hd : Rd w ad (dense xs)) (hs : Rd w (some ⟨gs, 0, none⟩) (buckets xs)) (hm : Rd w am (ordMarks xs L)) (hl : xs.length ≤ 1073741822) (hk : kinds xs ≤ 1073741822) (hk0 : ¬ kinds xs = 0) :
    Calls Try.prog 100 #[.agg #[.string s, .slice ad xs.length cd, .slice (some ⟨gs, 0, none⟩) (kinds xs + 1) (kinds xs + 1)], .slice am (ordMarks xs L).length cm] w fun e w' => ∃ g arr ends, e = .returned (.slice (some ⟨g, 0, none⟩) xs.length xs.length) ∧ w.heap.size ≤ g ∧ Own w' g arr ∧ Lay xs L 0 arr ends ∧ Below w.heap.size w w' := by
  have HOr := Hid.mk' hO
  have hml := ordMarks_le hO
  have HKL := Hid.mk' (ends_length xs)
  clear hO
  go_enter Try.func100, Try.ntmps100
  go_wp2_with fail
  refine (allFree_any xs.length _ (by omega)).mono ?_
  rintro e w1 ⟨rfl, ho1, hb1⟩
  have hsz : ∀ o, (w.alloc o).heap.size = w.heap.size + 1 := fun o => by simp
  rw [hsz] at ho1 hb1
  have hv1 := OwnV.below (owned_alloc w _ _) hb1 (Nat.lt_succ_self _)
  have hb01 := ((Below.refl w.heap.size w).alloc (Nat.le_refl _) _).trans (hb1.mono (Nat.le_succ _))
  have hf2 := hv1.cell (i := 2) (by simp)
  simp only [List.getElem_cons_zero, List.getElem_cons_succ] at hf2
  have hlt1 := ho1.lt
  have hs1 := (hs.below hb01).drop 1
  rw [Nat.zero_add] at hs1
  clear hb1
  go_wp2_with fail
  refine (copyOf_any _ _ _ ((buckets xs).drop 1) _ hs1 (by rw [HKL.out]; omega) HKL.out).mono ?_
  rintro e w2 ⟨rfl, ho2, hb2⟩
  have hv2 := hv1.below hb2 (by omega)
  have ho12 := ho1.below hb2 hlt1
  have hb02 := hb01.trans (hb2.mono hb01.size)
  have HH := Hid.mk' (And.intro ho12 (And.intro ho2 (And.intro hv2 hb02)))
  clear hv1 ho1 hb01 ho2 hb2 hv2 ho12 hb02 hs1 hf2 hs
  go_wp2
  go_loopw [7] (fun i wr => ∃ (k : Nat) (arr ends : List Int), k ≤ (ordMarks xs L).length ∧ i = .int .i64 ((k : Int) - 1) ∧ Hid (Lay xs L k arr ends) ∧ Hid (Own wr (w.heap.size + 1) arr) ∧ Hid (Own wr w1.heap.size ends) ∧ Hid (OwnV wr w.heap.size 83 [.string s, .slice ad xs.length cd, .slice (some ⟨gs, 0, none⟩) (kinds xs + 1) (kinds xs + 1)]) ∧ Hid (Below w.heap.size w wr)) (fun i _ => (intOf i + 1).toNat)
  case atStart => exact ⟨(ordMarks xs L).length, _, _, Nat.le_refl _, rfl, Lay.start HOr.out, HH.out.1, HH.out.2.1, HH.out.2.2.1, HH.out.2.2.2⟩
  case round =>
    clear HH
    obtain ⟨k, arr, ends, hk2, rfl, HL, H1, H2, HV, HB⟩ := hrel
    cases k with
    | zero =>
      go_wp2
      go_ret
      exact ⟨_, arr, ends, rfl, by omega, H1.out, HL.out, HB.out⟩
    | succ m =>
      have hmM : m < (ordMarks xs L).length := by omega
      obtain ⟨p, hp, -⟩ := ordMarks_at HOr.out hmM
      obtain ⟨hpx, hD, z, hz, hzx, hza, hLay⟩ := HL.out.lay HOr.out hmM hp
      obtain ⟨D, hDD⟩ : ∃ D, dN xs p = D := ⟨_, rfl⟩
      have hDk : D < kinds xs := by rw [← hDD]; exact dN_lt hpx
      rw [hDD] at hD hz hLay
      have HLay := Hid.mk' hLay
      have HD := Hid.mk' hD
      have HZa := Hid.mk' hza
      have hrm := hm.below HB.out
      have hrd := hd.below HB.out
      have hpd : p < (dense xs).length := by rw [dense_length]; exact hpx
      obtain ⟨bm, om, rfl, hbm, hcm0⟩ := hm.at hmM
      obtain ⟨bd, od, rfl, hbd, hcd0⟩ := hd.at hpd
      have hcm := hrm.cell hmM
      rw [hp] at hcm
      have hcd := hrd.cell hpd
      rw [dN_at, hDD] at hcd
      have hce := H2.out.cell hD
      rw [hz] at hce
      have hfe := H2.out.frozen D
      obtain ⟨u, hca⟩ : ∃ u, wr.cell? ⟨w.heap.size + 1, z, none⟩ = some u := ⟨_, H1.out.cell hza⟩
      have hfa := H1.out.frozen z
      have hf1 := HV.out.cell (i := 1) (by simp)
      simp only [List.getElem_cons_zero, List.getElem_cons_succ] at hf1
      have n1 : bm ≠ w1.heap.size := by omega
      have n2 : w1.heap.size ≠ bm := by omega
      have n3 : w1.heap.size ≠ w.heap.size + 1 := by omega
      have n4 : w.heap.size + 1 ≠ w1.heap.size := by omega
      have n5 : w1.heap.size ≠ w.heap.size := by omega
      have n6 : w.heap.size ≠ w1.heap.size := by omega
      have n7 : w.heap.size + 1 ≠ bm := by omega
      have n8 : bm ≠ w.heap.size + 1 := by omega
      rw [show ((m + 1 : Nat) : Int) - 1 = (m : Int) by omega]
      clear hcm0 hcd0 hrm hrd hp hDD hz hLay hD hza hpd
      have z1 : (0 : Int) ≤ (m : Int) := by omega
      have z2 : (m : Int) < ((ordMarks xs L).length : Int) := by omega
      have z3 : (0 : Int) ≤ (D : Int) := by omega
      have z4 : (D : Int) < (kinds xs : Int) := by omega
      have z5 : (0 : Int) ≤ (z : Int) := by omega
      have z6 : (z : Int) < (xs.length : Int) := by omega
      go_wp2
      go_quiet (fail)
      go_wp2
      generalize hu : World.setCell (wr.drewN _) _ _ = u2
      have K1 : Hid (Own u2 (w.heap.size + 1) arr) := by rw [Hid, ← hu]; exact (H1.out.drewN _).other n3 _
      have K2 : Hid (Own u2 w1.heap.size (ends.set D z)) := by rw [Hid, ← hu]; exact (H2.out.drewN _).set D _
      have KV : Hid (OwnV u2 w.heap.size 83 [.string s, .slice (some ⟨bd, od, none⟩) xs.length cd, .slice (some ⟨gs, 0, none⟩) (kinds xs + 1) (kinds xs + 1)]) := by rw [Hid, ← hu]; exact (HV.out.drewN _).other n5 _
      have KB : Hid (Below w.heap.size w u2) := by rw [Hid, ← hu]; exact (below_drewN HB.out _).setCell (by show w.heap.size ≤ w1.heap.size; omega) _
      have hk1 : u2.cell? ⟨bm, om + m, none⟩ = some (.int .i64 p) := by rw [← hu, World.cell?_setCell_far _ _ _ _ n2]; exact hcm
      have hk2 := K2.out.cell (i := D) (by simpa using HD.out)
      rw [set_at HD.out] at hk2
      obtain ⟨u', hk3⟩ : ∃ u, u2.cell? ⟨w.heap.size + 1, z, none⟩ = some u := ⟨_, K1.out.cell HZa.out⟩
      have hk4 := K1.out.frozen z
      clear hu hcm hcd hce hfe hca hfa hf1
      go_region_held3 (fun w' => w'.cell? ⟨w1.heap.size, D, none⟩ = some (.int .i64 z) ∧ w'.cell? ⟨bm, om + m, none⟩ = some (.int .i64 p)) (go_keep) (fail)
      go_wp2
      go_roundw
      case rel => exact ⟨m, _, _, by omega, by go_num, HLay, (K1.out.drewN _).set z _, (K2.out.drewN _).other n4 _, (KV.out.drewN _).other (by show w.heap.size + 1 ≠ w.heap.size; omega) _, (below_drewN KB.out _).setCell (by show w.heap.size ≤ w.heap.size + 1; omega) _⟩
      case measure => simp [intOf]

end Go.Proofs.Ytpioolbcilfijaa
