/-
  Draw: P8, P13: the walks of the program's drawing in, out of the marks' order.
-/
import Derived.Test.YtdhehffdddbmbaaPieces
import Derived.Test.YtdhehffdddbmbaaSort
import Derived.Deep.RegionHeld3
import Derived.Test.YtdhehffdddbmbaaKinds
/-! ## Draw -/

namespace Go.Proofs.Ytdhehffdddbmbaa
open Go.RowKit

theorem free_step {ds : List Int} {k n : Nat} (hk : k < n) (hl : ds.length = n) (h : ds.take k = List.replicate k (-1)) : (ds.set k (-1)).take (k + 1) = List.replicate (k + 1) (-1) := by
  rw [List.take_add_one, List.getElem?_set_self (by omega), List.take_set_of_le (Nat.le_refl _), h, List.replicate_succ']
  rfl

set_option maxHeartbeats 800000 in
theorem allFree_any (n : Nat) (w : World) (hl : n ≤ 1073741824) :
    Calls Try.prog 112 #[.int .i64 n] w fun e w' => e = .returned (.slice (some ⟨w.heap.size, 0, none⟩) n n) ∧ Own w' w.heap.size (List.replicate n (-1)) ∧ Below w.heap.size w w' := by
  obtain ⟨i0, hi, hz0, hz1, hz2⟩ := info_parts Try.info3
  have hml : n ≤ maxLen := by unfold maxLen; omega
  go_enter Try.func112, Try.ntmps112
  go_wp2_with (at_make; refine wpList_make_full _ rfl _ _ 22 rfl w.heap.size 3 i0 (.int .i64 0) 1 Try.underlying22 hi hz0 hz1 _ _ _ _ n rfl rfl (by omega) (by omega) ?b2 hml (Nat.le_refl _) ?_)
  case b2 => rw [hz2]; omega
  intro w2 hown0 hgrow0
  obtain ⟨ho, hb2, hs2⟩ := made_row hown0 hgrow0
  clear hown0 hgrow0
  go_wp2
  go_loopw [4] (fun i wr => ∃ (k : Nat) (ds : List Int), k ≤ n ∧ i = .int .i64 k ∧ Hid (ds.length = n) ∧ Hid (ds.take k = List.replicate k (-1)) ∧ Hid (Own wr w.heap.size ds) ∧ Hid (Below w.heap.size w wr)) (fun i _ => n - (intOf i).toNat)
  case atStart => exact ⟨0, _, Nat.zero_le _, rfl, by simp [Hid], rfl, ho, hb2⟩
  case round =>
    clear ho hb2 hs2
    obtain ⟨k, ds, hk, rfl, HL, HT, HO, HB⟩ := hrel
    by_cases hlt : k < n
    · obtain ⟨u, hcell⟩ : ∃ u, wr.cell? ⟨w.heap.size, k, none⟩ = some u := ⟨_, HO.out.cell (by rw [HL.out]; exact hlt)⟩
      have hfz := HO.out.frozen k
      have HS := Hid.mk' (free_step hlt HL.out HT.out)
      go_wp2
      go_roundw
      case rel => exact ⟨k + 1, _, by omega, by go_num, by rw [Hid, List.length_set]; exact HL.out, HS, HO.out.set k _, HB.out.setCell (Nat.le_refl _) _⟩
      case measure => simp [intOf]; omega
    · have HE : Hid (ds = List.replicate n (-1)) := by
        have h1 := HT.out
        rw [List.take_of_length_le (by rw [HL.out]; omega), show k = n by omega] at h1
        exact h1
      go_wp2
      go_ret
      exact ⟨rfl, by rw [← HE.out]; exact HO.out, HB.out⟩

theorem copy_row0 {w : World} {a : Option Addr} {xs : List Int} {g cap dcap : Nat} {ys : List Int} (ho : Own w g ys) (hy : ys.length = xs.length) (hr : Rd w a xs) :
    ∃ w1, (∀ ty, (Builtin.copy_ #[22, 22] ty #[.slice (some ⟨g, 0, none⟩) xs.length dcap, .slice a xs.length cap]).run Try.prog w = .ok (goInt xs.length) w1) ∧ Own w1 g xs ∧ Below g w w1 ∧ w1.heap.size = w.heap.size := by
  by_cases hx : xs = []
  · subst hx
    obtain rfl : ys = [] := List.eq_nil_of_length_eq_zero hy
    exact ⟨w, fun ty => run_copy_none w _ _ ty 3 _ _ _ _ _ _ Try.underlying22 (by kernel_rfl) (by simp), ho, Below.refl _ _, rfl⟩
  · obtain ⟨b, off, rfl, hb, hc⟩ := hr hx
    have hadd : ∀ j, (⟨b, off, none⟩ : Addr).add j = ⟨b, off + j, none⟩ := fun j => by unfold Addr.add; split <;> simp_all
    refine ⟨w.setRow g (xs.map (Value.int .i64)).toArray, fun ty => ?_, ?_, ?_, ?_⟩
    · have hrun := run_copy_row Try.prog w 22 22 ty 3 g 0 xs.length dcap ⟨b, off, none⟩ xs.length cap _ 3 (xs.map (Value.int .i64)) Try.underlying22 (by kernel_rfl) ho (by simp) ?_ ?_ ?_
      · rw [hrun, List.drop_eq_nil_of_le (by simp; omega)]
        simp
      · intro j v hv
        simp at hv
        obtain ⟨x, hx1, rfl⟩ := hv
        have hj : j < xs.length := (List.getElem?_eq_some_iff.1 hx1).1
        rw [hadd, hc j hj]
        simp [List.getD, hx1]
      · simp [hy]
      · intro v hv
        simp at hv
        obtain ⟨x, _, rfl⟩ := hv
        rfl
    · exact setRow_heap w g _ _ _ _ ho
    · exact below_setRow (Below.refl _ _) (Nat.le_refl _) _
    · simp [World.setRow]

set_option maxHeartbeats 800000 in
theorem copyOf_any (a : Option Addr) (len cap : Nat) (xs : List Int) (w : World) (hr : Rd w a xs) (hl : xs.length ≤ 1073741824) (hn : xs.length = len) :
    Calls Try.prog 113 #[.slice a len cap] w fun e w' => e = .returned (.slice (some ⟨w.heap.size, 0, none⟩) len len) ∧ Own w' w.heap.size xs ∧ Below w.heap.size w w' := by
  subst hn
  obtain ⟨i0, hi, hz0, hz1, hz2⟩ := info_parts Try.info3
  have hml : xs.length ≤ maxLen := by unfold maxLen; omega
  go_enter Try.func113, Try.ntmps113
  go_wp2_with (at_make; refine wpList_make_full _ rfl _ _ 22 rfl w.heap.size 3 i0 (.int .i64 0) 1 Try.underlying22 hi hz0 hz1 _ _ _ _ xs.length rfl rfl (by omega) (by omega) ?b2 hml (Nat.le_refl _) ?_)
  case b2 => rw [hz2]; omega
  intro w2 hown0 hgrow0
  obtain ⟨ho, hb2, hs2⟩ := made_row hown0 hgrow0
  clear hown0 hgrow0
  obtain ⟨w3, hrun, ho3, hb3, hs3⟩ := copy_row0 (cap := cap) (dcap := xs.length) ho (by simp) (hr.below hb2)
  have R := Hid.mk' (And.intro ho3 (hb2.trans hb3))
  clear ho hb2 hs2 ho3 hb3 hs3 hr
  go_wp2
  go_ret
  exact ⟨rfl, R.out.1, R.out.2⟩

theorem ordMarks_le {xs L : List Int} (hO : Ord xs L) : (ordMarks xs L).length ≤ xs.length := by
  rw [← OrdTo.length hO]; exact List.length_filter_le _ _
theorem ordMarks_at {xs L : List Int} (hO : Ord xs L) {i : Nat} (hi : i < (ordMarks xs L).length) : ∃ p : Nat, (ordMarks xs L).getD i 0 = (p : Int) ∧ p < xs.length := by
  have hm := (mem_ordMarks hO ((ordMarks xs L).getD i 0)).1 (by rw [List.getD, List.getElem?_eq_getElem hi, Option.getD_some]; exact List.getElem_mem hi)
  exact ⟨((ordMarks xs L).getD i 0).toNat, by omega, by omega⟩
theorem ends_length (xs : List Int) : ((buckets xs).drop 1).length = kinds xs := by rw [List.length_drop, buckets_length]; omega

theorem kinds_zero {xs : List Int} (h : kinds xs = 0) : xs = [] := by
  cases xs with
  | nil => rfl
  | cons x r => have := dN_lt (xs := x :: r) (p := 0) (by simp); omega
theorem ord_nil {L : List Int} (h : Ord [] L) : L = [] := List.eq_nil_of_length_eq_zero (OrdTo.length h)

set_option maxHeartbeats 800000 in
theorem layMarks_nil (s : ByteArray) (ad : Option Addr) (gs cd : Nat) (am : Option Addr) (cm : Nat) (w : World) :
    Calls Try.prog 111 #[.agg #[.string s, .slice ad 0 cd, .slice (some ⟨gs, 0, none⟩) 1 1], .slice am 0 cm] w fun e w' => ∃ g, e = .returned (.slice (some ⟨g, 0, none⟩) 0 0) ∧ w.heap.size ≤ g ∧ Own w' g [] ∧ Below w.heap.size w w' := by
  go_enter Try.func111, Try.ntmps111
  go_wp2_with fail
  refine (allFree_any 0 _ (by omega)).mono ?_
  rintro e w1 ⟨rfl, ho1, hb1⟩
  have hsz : ∀ o, (w.alloc o).heap.size = w.heap.size + 1 := fun o => by simp
  rw [hsz] at ho1 hb1
  have hv1 := OwnV.below (owned_alloc w _ _) hb1 (Nat.lt_succ_self _)
  have hb01 := ((Below.refl w.heap.size w).alloc (Nat.le_refl _) _).trans (hb1.mono (Nat.le_succ _))
  have hf2 := hv1.cell (i := 2) (by simp)
  simp only [List.getElem_cons_zero, List.getElem_cons_succ] at hf2
  have hlt1 := ho1.lt
  clear hb1
  go_wp2_with fail
  refine (copyOf_any _ _ _ [] _ (Rd.nil _ _) (by simp) rfl).mono ?_
  rintro e w2 ⟨rfl, ho2, hb2⟩
  have R := Hid.mk' (And.intro (ho1.below hb2 hlt1) (hb01.trans (hb2.mono hb01.size)))
  clear ho1 ho2 hv1 hb01 hb2
  go_wp2
  go_loopw [7] (fun i wr => i = .int .i64 (-1) ∧ Hid (wr = w2)) (fun _ _ => 0)
  case atStart => exact ⟨rfl, rfl⟩
  case round =>
    obtain ⟨rfl, HW⟩ := hrel
    have R2 : Hid (Own wr (w.heap.size + 1) (List.replicate 0 (-1)) ∧ Below w.heap.size w wr) := by rw [HW.out]; exact R
    go_wp2
    go_ret
    exact ⟨w.heap.size + 1, rfl, by omega, R2.out.1, R2.out.2⟩

set_option maxHeartbeats 1600000 in
set_option maxRecDepth 100000 in
theorem layMarks_some (s : ByteArray) (ad : Option Addr) (gs cd : Nat) (am : Option Addr) (cm : Nat) (xs L : List Int) (w : World) (hO : Ord xs L) (hd : Rd w ad (dense xs)) (hs : Rd w (some ⟨gs, 0, none⟩) (buckets xs)) (hm : Rd w am (ordMarks xs L)) (hl : xs.length ≤ 1073741822) (hk : kinds xs ≤ 1073741822) (hk0 : ¬ kinds xs = 0) :
    Calls Try.prog 111 #[.agg #[.string s, .slice ad xs.length cd, .slice (some ⟨gs, 0, none⟩) (kinds xs + 1) (kinds xs + 1)], .slice am (ordMarks xs L).length cm] w fun e w' => ∃ g arr ends, e = .returned (.slice (some ⟨g, 0, none⟩) xs.length xs.length) ∧ w.heap.size ≤ g ∧ Own w' g arr ∧ Lay xs L 0 arr ends ∧ Below w.heap.size w w' := by
  have HOr := Hid.mk' hO
  have hml := ordMarks_le hO
  have HKL := Hid.mk' (ends_length xs)
  clear hO
  go_enter Try.func111, Try.ntmps111
  go_wp2_with fail
  refine (allFree_any xs.length _ (by omega)).mono ?_
  rintro e w1 ⟨rfl, ho1, hb1⟩
  have hsz : ∀ o, (w.alloc o).heap.size = w.heap.size + 1 := fun o => by simp
  rw [hsz] at ho1 hb1
  have hv1 := OwnV.below (owned_alloc w _ _) hb1 (Nat.lt_succ_self _)
  have hb01 := ((Below.refl w.heap.size w).alloc (Nat.le_refl _) _).trans (hb1.mono (Nat.le_succ _))
  have hf2 := hv1.cell (i := 2) (by simp)
  simp only [List.getElem_cons_zero, List.getElem_cons_succ] at hf2
  have hlt1 := ho1.lt
  have hs1 := (hs.below hb01).drop 1
  rw [Nat.zero_add] at hs1
  clear hb1
  go_wp2_with fail
  refine (copyOf_any _ _ _ ((buckets xs).drop 1) _ hs1 (by rw [HKL.out]; omega) HKL.out).mono ?_
  rintro e w2 ⟨rfl, ho2, hb2⟩
  have hv2 := hv1.below hb2 (by omega)
  have ho12 := ho1.below hb2 hlt1
  have hb02 := hb01.trans (hb2.mono hb01.size)
  have HH := Hid.mk' (And.intro ho12 (And.intro ho2 (And.intro hv2 hb02)))
  clear hv1 ho1 hb01 ho2 hb2 hv2 ho12 hb02 hs1 hf2 hs
  go_wp2
  go_loopw [7] (fun i wr => ∃ (k : Nat) (arr ends : List Int), k ≤ (ordMarks xs L).length ∧ i = .int .i64 ((k : Int) - 1) ∧ Hid (Lay xs L k arr ends) ∧ Hid (Own wr (w.heap.size + 1) arr) ∧ Hid (Own wr w1.heap.size ends) ∧ Hid (OwnV wr w.heap.size 87 [.string s, .slice ad xs.length cd, .slice (some ⟨gs, 0, none⟩) (kinds xs + 1) (kinds xs + 1)]) ∧ Hid (Below w.heap.size w wr)) (fun i _ => (intOf i + 1).toNat)
  case atStart => exact ⟨(ordMarks xs L).length, _, _, Nat.le_refl _, rfl, Lay.start HOr.out, HH.out.1, HH.out.2.1, HH.out.2.2.1, HH.out.2.2.2⟩
  case round =>
    clear HH
    obtain ⟨k, arr, ends, hk2, rfl, HL, H1, H2, HV, HB⟩ := hrel
    cases k with
    | zero =>
      go_wp2
      go_ret
      exact ⟨_, arr, ends, rfl, by omega, H1.out, HL.out, HB.out⟩
    | succ m =>
      have hmM : m < (ordMarks xs L).length := by omega
      obtain ⟨p, hp, -⟩ := ordMarks_at HOr.out hmM
      obtain ⟨hpx, hD, z, hz, hzx, hza, hLay⟩ := HL.out.lay HOr.out hmM hp
      obtain ⟨D, hDD⟩ : ∃ D, dN xs p = D := ⟨_, rfl⟩
      have hDk : D < kinds xs := by rw [← hDD]; exact dN_lt hpx
      rw [hDD] at hD hz hLay
      have HLay := Hid.mk' hLay
      have HD := Hid.mk' hD
      have HZa := Hid.mk' hza
      have hrm := hm.below HB.out
      have hrd := hd.below HB.out
      have hpd : p < (dense xs).length := by rw [dense_length]; exact hpx
      obtain ⟨bm, om, rfl, hbm, hcm0⟩ := hm.at hmM
      obtain ⟨bd, od, rfl, hbd, hcd0⟩ := hd.at hpd
      have hcm := hrm.cell hmM
      rw [hp] at hcm
      have hcd := hrd.cell hpd
      rw [dN_at, hDD] at hcd
      have hce := H2.out.cell hD
      rw [hz] at hce
      have hfe := H2.out.frozen D
      obtain ⟨u, hca⟩ : ∃ u, wr.cell? ⟨w.heap.size + 1, z, none⟩ = some u := ⟨_, H1.out.cell hza⟩
      have hfa := H1.out.frozen z
      have hf1 := HV.out.cell (i := 1) (by simp)
      simp only [List.getElem_cons_zero, List.getElem_cons_succ] at hf1
      have n1 : bm ≠ w1.heap.size := by omega
      have n2 : w1.heap.size ≠ bm := by omega
      have n3 : w1.heap.size ≠ w.heap.size + 1 := by omega
      have n4 : w.heap.size + 1 ≠ w1.heap.size := by omega
      have n5 : w1.heap.size ≠ w.heap.size := by omega
      have n6 : w.heap.size ≠ w1.heap.size := by omega
      have n7 : w.heap.size + 1 ≠ bm := by omega
      have n8 : bm ≠ w.heap.size + 1 := by omega
      rw [show ((m + 1 : Nat) : Int) - 1 = (m : Int) by omega]
      clear hcm0 hcd0 hrm hrd hp hDD hz hLay hD hza hpd
      have z1 : (0 : Int) ≤ (m : Int) := by omega
      have z2 : (m : Int) < ((ordMarks xs L).length : Int) := by omega
      have z3 : (0 : Int) ≤ (D : Int) := by omega
      have z4 : (D : Int) < (kinds xs : Int) := by omega
      have z5 : (0 : Int) ≤ (z : Int) := by omega
      have z6 : (z : Int) < (xs.length : Int) := by omega
      go_wp2
      go_quiet (fail)
      go_wp2
      generalize hu : World.setCell (wr.drewN _) _ _ = u2
      have K1 : Hid (Own u2 (w.heap.size + 1) arr) := by rw [Hid, ← hu]; exact (H1.out.drewN _).other n3 _
      have K2 : Hid (Own u2 w1.heap.size (ends.set D z)) := by rw [Hid, ← hu]; exact (H2.out.drewN _).set D _
      have KV : Hid (OwnV u2 w.heap.size 87 [.string s, .slice (some ⟨bd, od, none⟩) xs.length cd, .slice (some ⟨gs, 0, none⟩) (kinds xs + 1) (kinds xs + 1)]) := by rw [Hid, ← hu]; exact (HV.out.drewN _).other n5 _
      have KB : Hid (Below w.heap.size w u2) := by rw [Hid, ← hu]; exact (below_drewN HB.out _).setCell (by show w.heap.size ≤ w1.heap.size; omega) _
      have hk1 : u2.cell? ⟨bm, om + m, none⟩ = some (.int .i64 p) := by rw [← hu, World.cell?_setCell_far _ _ _ _ n2]; exact hcm
      have hk2 := K2.out.cell (i := D) (by simpa using HD.out)
      rw [set_at HD.out] at hk2
      obtain ⟨u', hk3⟩ : ∃ u, u2.cell? ⟨w.heap.size + 1, z, none⟩ = some u := ⟨_, K1.out.cell HZa.out⟩
      have hk4 := K1.out.frozen z
      clear hu hcm hcd hce hfe hca hfa hf1
      go_region_held3 (fun w' => w'.cell? ⟨w1.heap.size, D, none⟩ = some (.int .i64 z) ∧ w'.cell? ⟨bm, om + m, none⟩ = some (.int .i64 p)) (go_keep) (fail)
      go_wp2
      go_roundw
      case rel => exact ⟨m, _, _, by omega, by go_num, HLay, (K1.out.drewN _).set z _, (K2.out.drewN _).other n4 _, (KV.out.drewN _).other (by show w.heap.size + 1 ≠ w.heap.size; omega) _, (below_drewN KB.out _).setCell (by show w.heap.size ≤ w.heap.size + 1; omega) _⟩
      case measure => simp [intOf]

end Go.Proofs.Ytdhehffdddbmbaa

/-! ## Draw2 -/

namespace Go.Proofs.Ytdhehffdddbmbaa
open Go.RowKit

theorem layMarks_any (s : ByteArray) (ad : Option Addr) (gs cd : Nat) (am : Option Addr) (cm : Nat) (xs L : List Int) (w : World) (hO : Ord xs L) (hd : Rd w ad (dense xs)) (hs : Rd w (some ⟨gs, 0, none⟩) (buckets xs)) (hm : Rd w am (ordMarks xs L)) (hl : xs.length ≤ 1073741822) (hk : kinds xs ≤ 1073741822) :
    Calls Try.prog 111 #[.agg #[.string s, .slice ad xs.length cd, .slice (some ⟨gs, 0, none⟩) (kinds xs + 1) (kinds xs + 1)], .slice am (ordMarks xs L).length cm] w fun e w' => ∃ g arr ends, e = .returned (.slice (some ⟨g, 0, none⟩) xs.length xs.length) ∧ w.heap.size ≤ g ∧ Own w' g arr ∧ Lay xs L 0 arr ends ∧ Below w.heap.size w w' := by
  by_cases hk0 : kinds xs = 0
  · obtain rfl := kinds_zero hk0
    obtain rfl := ord_nil hO
    refine (layMarks_nil s ad gs cd am cm w).mono ?_
    rintro e w' ⟨g, rfl, hg, ho, hb⟩
    exact ⟨g, [], _, rfl, hg, ho, Lay.start hO, hb⟩
  · exact layMarks_some s ad gs cd am cm xs L w hO hd hs hm hl hk hk0

theorem buckets_rd_length (xs : List Int) : (buckets xs).length = kinds xs + 1 := buckets_length xs

set_option maxHeartbeats 3200000 in
set_option maxRecDepth 100000 in
theorem drawFalling_any (s : ByteArray) (ad : Option Addr) (gs cd : Nat) (am : Option Addr) (cm : Nat) (xs L : List Int) (w : World) (hO : Ord xs L) (hd : Rd w ad (dense xs)) (hs : Rd w (some ⟨gs, 0, none⟩) (buckets xs)) (hm : Rd w am (ordMarks xs L)) (hl : xs.length ≤ 1073741822) (hsz : s.size = xs.length) (hby : ∀ i (h : i < s.size), (s[i].toNat : Int) = kd xs i) :
    Calls Try.prog 106 #[.agg #[.string s, .slice ad xs.length cd, .slice (some ⟨gs, 0, none⟩) (kinds xs + 1) (kinds xs + 1)], .slice am (ordMarks xs L).length cm] w fun e w' => ∃ g fa, e = .returned (.slice (some ⟨g, 0, none⟩) xs.length xs.length) ∧ w.heap.size ≤ g ∧ Own w' g fa ∧ fa.length = xs.length ∧ (∀ p, p < xs.length → gt xs p = true → fa.getD (ps L p) 0 = (p : Int)) ∧ Below w.heap.size w w' := by
  have HOr := Hid.mk' hO
  have hk := kinds_le xs
  have HBL := Hid.mk' (buckets_rd_length xs)
  have HBY := Hid.mk' hby
  have hsl : xs.length ≤ s.size := by omega
  clear hsz hby hO
  have HLM := Hid.mk' (fun o => layMarks_any s ad gs cd am cm xs L (w.alloc o) HOr.out (hd.below ((Below.refl _ _).alloc (Nat.le_refl _) _)) (hs.below ((Below.refl _ _).alloc (Nat.le_refl _) _)) (hm.below ((Below.refl _ _).alloc (Nat.le_refl _) _)) hl (by omega))
  go_enter Try.func106, Try.ntmps106
  go_wp2_with fail
  refine (HLM.out _).mono ?_
  rintro e w1 ⟨gk, kn0, ends0, rfl, hgk, hok, hLay, hb1⟩
  have HLay := Hid.mk' hLay
  clear hLay
  have hsz : ∀ o, (w.alloc o).heap.size = w.heap.size + 1 := fun o => by simp
  rw [hsz] at hgk hb1
  have hv1 := OwnV.below (owned_alloc w _ _) hb1 (Nat.lt_succ_self _)
  have hb01 := ((Below.refl w.heap.size w).alloc (Nat.le_refl _) _).trans (hb1.mono (Nat.le_succ _))
  have hltk := hok.lt
  clear hb1 HLM
  go_wp2_with fail
  refine (allFree_any xs.length _ (by omega)).mono ?_
  rintro e w2 ⟨rfl, hof, hb2⟩
  have hv2 := hv1.below hb2 (by omega)
  have hok2 := hok.below hb2 hltk
  have hb02 := hb01.trans (hb2.mono hb01.size)
  have hltf := hof.lt
  have hf2 := hv2.cell (i := 2) (by simp)
  simp only [List.getElem_cons_zero, List.getElem_cons_succ] at hf2
  have hs2 := hs.below hb02
  clear hv1 hok hb01 hb2
  go_wp2_with fail
  refine (copyOf_any _ _ _ (buckets xs) _ hs2 (by rw [HBL.out]; omega) HBL.out).mono ?_
  rintro e w3 ⟨rfl, hoh, hb3⟩
  have HH := Hid.mk' (And.intro (hok2.below hb3 (by omega)) (And.intro (hof.below hb3 hltf) (And.intro hoh (And.intro (hv2.below hb3 (by omega)) (hb02.trans (hb3.mono hb02.size))))))
  clear hv2 hok2 hb02 hb3 hoh hof hs2 hf2 hs hm
  have n1 : gk ≠ w1.heap.size := by omega
  have n2 : w1.heap.size ≠ gk := by omega
  have n3 : gk ≠ w2.heap.size := by omega
  have n4 : w2.heap.size ≠ gk := by omega
  have n5 : w1.heap.size ≠ w2.heap.size := by omega
  have n6 : w2.heap.size ≠ w1.heap.size := by omega
  have n7 : gk ≠ w.heap.size := by omega
  have n8 : w1.heap.size ≠ w.heap.size := by omega
  have n9 : w2.heap.size ≠ w.heap.size := by omega
  have n7' : w.heap.size ≠ gk := by omega
  have n8' : w.heap.size ≠ w1.heap.size := by omega
  have n9' : w.heap.size ≠ w2.heap.size := by omega
  go_wp2
  go_loopw [8] (fun i wr => ∃ (t : Nat) (kn fa hs : List Int), t ≤ xs.length + 1 ∧ i = .int .i64 ((t : Int) - 1) ∧ Hid (Fall xs L t kn fa hs) ∧ Hid (Own wr gk kn) ∧ Hid (Own wr w1.heap.size fa) ∧ Hid (Own wr w2.heap.size hs) ∧ Hid (OwnV wr w.heap.size 87 [.string s, .slice ad xs.length cd, .slice (some ⟨gs, 0, none⟩) (kinds xs + 1) (kinds xs + 1)]) ∧ Hid (Below w.heap.size w wr)) (fun i _ => xs.length + 1 - (intOf i + 1).toNat)
  case atStart => exact ⟨0, kn0, _, _, Nat.zero_le _, rfl, Fall.start HOr.out HLay.out, HH.out.1, HH.out.2.1, HH.out.2.2.1, HH.out.2.2.2.1, HH.out.2.2.2.2⟩
  case round =>
    clear HH
    obtain ⟨t, kn, fa, hs, ht, rfl, HF, H1, H2, H3, HV, HB⟩ := hrel
    cases t with
    | zero =>
      rw [show ((0 : Nat) : Int) - 1 = -1 from rfl]
      by_cases hn : xs.length = 0
      · have HN := Hid.mk' (HF.out.none HOr.out hn)
        have hn0 : ((xs.length : Nat) : Int) = 0 := by omega
        have hlt : (-1 : Int) < (xs.length : Int) := by omega
        clear hn
        go_wp2
        go_roundw
        case rel => exact ⟨1, kn, fa, hs, by omega, by go_num, HN, H1, H2, H3, HV, HB⟩
        case measure => simp [intOf]
      · obtain ⟨p, hp⟩ : ∃ p, p + 1 = xs.length := ⟨xs.length - 1, by omega⟩
        have hpx : p < xs.length := by omega
        have hg : gt xs p = true := gt_last (by omega)
        obtain ⟨hD, z, hz, hzx, hzk, hzf, hFl⟩ := HF.out.first HOr.out hp
        have hpe : ((xs.length : Nat) : Int) - 1 = (p : Int) := by omega
        have HP := Hid.mk' hp
        have HFl := Hid.mk' hFl
        obtain ⟨D, hDD⟩ : ∃ D, dN xs p = D := ⟨_, rfl⟩
        have hDk : D < kinds xs := by rw [← hDD]; exact dN_lt hpx
        rw [Hid, hDD] at HFl
        rw [hDD] at hD hz
        have hrd := hd.below HB.out
        have hpd : p < (dense xs).length := by rw [dense_length]; exact hpx
        obtain ⟨bd, od, rfl, hbd, hcd0⟩ := hd.at hpd
        have hcd := hrd.cell hpd
        rw [dN_at, hDD] at hcd
        have hch := H3.out.cell hD
        rw [hz] at hch
        have hfh := H3.out.frozen D
        obtain ⟨u, hca⟩ : ∃ u, wr.cell? ⟨gk, z, none⟩ = some u := ⟨_, H1.out.cell hzk⟩
        have hfa := H1.out.frozen z
        obtain ⟨u', hcb⟩ : ∃ u, wr.cell? ⟨w1.heap.size, z, none⟩ = some u := ⟨_, H2.out.cell hzf⟩
        have hfb := H2.out.frozen z
        have hf0 := HV.out.cell (i := 0) (by simp)
        have hf1 := HV.out.cell (i := 1) (by simp)
        simp only [List.getElem_cons_zero, List.getElem_cons_succ] at hf0 hf1
        have hps : p < s.size := by omega
        have hby := HBY.out p hps
        have hbe : ((s[p].toNat : Int) == 76) = true := by rw [hby, (kd_L_iff xs p).2 hg]; rfl

        clear hcd0 hrd hDD hz hFl hD hzk hzf hpd hby hg hn
        go_wp2
        go_roundw
        case rel => exact ⟨1, _, _, _, by omega, by go_num, HFl, ((H1.out.set z _).other n2 _).other n4 _, ((H2.out.other n1 _).set z _).other n6 _, ((H3.out.other n3 _).other n5 _).set D _, ((HV.out.other n7 _).other n8 _).other n9 _, ((HB.out.setCell (by show w.heap.size ≤ gk; omega) _).setCell (by show w.heap.size ≤ w1.heap.size; omega) _).setCell (by show w.heap.size ≤ w2.heap.size; omega) _⟩
        case measure => simp [intOf]
    | succ i =>
      rw [show ((i + 1 : Nat) : Int) - 1 = (i : Int) by omega]
      by_cases hi : i < xs.length
      · obtain ⟨r1, r2⟩ := HF.out.range HOr.out hi
        have hik : i < kn.length := by rw [HF.out.len]; exact hi
        have hck := H1.out.cell hik
        by_cases hv0 : kn.getD i 0 ≤ 0
        · have HS := Hid.mk' (HF.out.skip HOr.out (fun p _ hp => by omega))
          generalize kn.getD i 0 = v at r1 r2 hck hv0
          go_wp2
          go_roundw
          case rel => exact ⟨i + 2, kn, fa, hs, by omega, by go_num, HS, H1, H2, H3, HV, HB⟩
          case measure => simp [intOf]; omega
        · obtain ⟨p, hp⟩ : ∃ p : Nat, kn.getD i 0 = ((p + 1 : Nat) : Int) := ⟨(kn.getD i 0 - 1).toNat, by omega⟩
          rw [hp] at hck r1 r2
          have hpx1 : p + 1 < xs.length := by omega
          have hpx : p < xs.length := by omega
          have hpe : (((p + 1 : Nat) : Int)) - 1 = (p : Int) := by omega
          cases hg : gt xs p with
          | true =>
            obtain ⟨hD, z, hz, hzx, hzk, hzf, hFl⟩ := HF.out.draw HOr.out hi hpx1 hp hg
            have HFl := Hid.mk' hFl
            obtain ⟨D, hDD⟩ : ∃ D, dN xs p = D := ⟨_, rfl⟩
            have hDk : D < kinds xs := by rw [← hDD]; exact dN_lt hpx
            rw [Hid, hDD] at HFl
            rw [hDD] at hD hz
            have hrd := hd.below HB.out
            have hpd : p < (dense xs).length := by rw [dense_length]; exact hpx
            obtain ⟨bd, od, rfl, hbd, hcd0⟩ := hd.at hpd
            have hcd := hrd.cell hpd
            rw [dN_at, hDD] at hcd
            have hch := H3.out.cell hD
            rw [hz] at hch
            have hfh := H3.out.frozen D
            obtain ⟨u, hca⟩ : ∃ u, wr.cell? ⟨gk, z, none⟩ = some u := ⟨_, H1.out.cell hzk⟩
            have hfa := H1.out.frozen z
            obtain ⟨u', hcb⟩ : ∃ u, wr.cell? ⟨w1.heap.size, z, none⟩ = some u := ⟨_, H2.out.cell hzf⟩
            have hfb := H2.out.frozen z
            have hf0 := HV.out.cell (i := 0) (by simp)
            have hf1 := HV.out.cell (i := 1) (by simp)
            simp only [List.getElem_cons_zero, List.getElem_cons_succ] at hf0 hf1
            have hps : p < s.size := by omega
            have hby := HBY.out p hps
            have hbe : ((s[p].toNat : Int) == 76) = true := by rw [hby, (kd_L_iff xs p).2 hg]; rfl

            clear hcd0 hrd hDD hz hFl hD hzk hzf hpd hby hg hp hv0
            go_wp2
            go_roundw
            case rel => exact ⟨i + 2, _, _, _, by omega, by go_num, HFl, ((H1.out.set z _).other n2 _).other n4 _, ((H2.out.other n1 _).set z _).other n6 _, ((H3.out.other n3 _).other n5 _).set D _, ((HV.out.other n7 _).other n8 _).other n9 _, ((HB.out.setCell (by show w.heap.size ≤ gk; omega) _).setCell (by show w.heap.size ≤ w1.heap.size; omega) _).setCell (by show w.heap.size ≤ w2.heap.size; omega) _⟩
            case measure => simp [intOf]; omega
          | false =>
            have HS := Hid.mk' (HF.out.skip HOr.out (fun q _ hq => by rw [hp] at hq; obtain rfl : q = p := by omega
                                                                      exact hg))
            have hf0 := HV.out.cell (i := 0) (by simp)
            simp only [List.getElem_cons_zero] at hf0
            have hps : p < s.size := by omega
            have hby := HBY.out p hps
            have hbe : ((s[p].toNat : Int) == 76) = false := by rw [hby]; simp [kd_L_iff, hg]
            clear hp hv0 hby hg
            go_wp2
            go_roundw
            case rel => exact ⟨i + 2, kn, fa, hs, by omega, by go_num, HS, H1, H2, H3, HV, HB⟩
            case measure => simp [intOf]; omega
      · have HD := Hid.mk' (HF.out.done HOr.out (by omega))
        go_wp2
        go_ret
        exact ⟨_, fa, rfl, by omega, H2.out, HD.out.1, HD.out.2, HB.out⟩

end Go.Proofs.Ytdhehffdddbmbaa

/-! ## Draw3 -/

namespace Go.Proofs.Ytdhehffdddbmbaa
open Go.RowKit

set_option maxHeartbeats 800000 in
theorem drawRising_nil (s : ByteArray) (ad : Option Addr) (gs cd : Nat) (af : Option Addr) (cf : Nat) (w : World) :
    Calls Try.prog 107 #[.agg #[.string s, .slice ad 0 cd, .slice (some ⟨gs, 0, none⟩) 1 1], .slice af 0 cf] w fun e w' => ∃ g, e = .returned (.slice (some ⟨g, 0, none⟩) 0 0) ∧ w.heap.size ≤ g ∧ Own w' g [] ∧ Below w.heap.size w w' := by
  go_enter Try.func107, Try.ntmps107
  go_wp2_with fail
  refine (copyOf_any _ _ _ [] _ (Rd.nil _ _) (by simp) rfl).mono ?_
  rintro e w1 ⟨rfl, ho1, hb1⟩
  have hsz : ∀ o, (w.alloc o).heap.size = w.heap.size + 1 := fun o => by simp
  rw [hsz] at ho1 hb1
  have hv1 := OwnV.below (owned_alloc w _ _) hb1 (Nat.lt_succ_self _)
  have hb01 := ((Below.refl w.heap.size w).alloc (Nat.le_refl _) _).trans (hb1.mono (Nat.le_succ _))
  have hf2 := hv1.cell (i := 2) (by simp)
  simp only [List.getElem_cons_zero, List.getElem_cons_succ] at hf2
  have hlt1 := ho1.lt
  clear hb1
  go_wp2_with fail
  refine (copyOf_any _ _ _ [] _ (Rd.nil _ _) (by simp) rfl).mono ?_
  rintro e w2 ⟨rfl, ho2, hb2⟩
  have R := Hid.mk' (And.intro (ho1.below hb2 hlt1) (hb01.trans (hb2.mono hb01.size)))
  clear ho1 ho2 hv1 hb01 hb2
  go_wp2
  go_loopw [7] (fun i wr => i = .int .i64 (-1) ∧ Hid (wr = w2)) (fun _ _ => 0)
  case atStart => exact ⟨rfl, rfl⟩
  case round =>
    obtain ⟨rfl, HW⟩ := hrel
    have R2 : Hid (Own wr (w.heap.size + 1) [] ∧ Below w.heap.size w wr) := by rw [HW.out]; exact R
    go_wp2
    go_ret
    exact ⟨w.heap.size + 1, rfl, by omega, R2.out.1, R2.out.2⟩

set_option maxHeartbeats 1600000 in
set_option maxRecDepth 100000 in
theorem drawRising_some (s : ByteArray) (ad : Option Addr) (gs cd : Nat) (af : Option Addr) (cf : Nat) (xs L fa : List Int) (w : World) (hO : Ord xs L) (hd : Rd w ad (dense xs)) (hs : Rd w (some ⟨gs, 0, none⟩) (buckets xs)) (hf : Rd w af fa) (hl : xs.length ≤ 1073741822) (hsz : s.size = xs.length) (hby : ∀ i (h : i < s.size), (s[i].toNat : Int) = kd xs i) (hfl : fa.length = xs.length) (hfa : ∀ p, p < xs.length → gt xs p = true → fa.getD (ps L p) 0 = (p : Int)) (hk0 : ¬ kinds xs = 0) :
    Calls Try.prog 107 #[.agg #[.string s, .slice ad xs.length cd, .slice (some ⟨gs, 0, none⟩) (kinds xs + 1) (kinds xs + 1)], .slice af xs.length cf] w fun e w' => ∃ g, e = .returned (.slice (some ⟨g, 0, none⟩) xs.length xs.length) ∧ w.heap.size ≤ g ∧ Own w' g L ∧ Below w.heap.size w w' := by
  have HOr := Hid.mk' hO
  have hk := kinds_le xs
  have HKL := Hid.mk' (ends_length xs)
  have HBY := Hid.mk' hby
  have HFA := Hid.mk' (And.intro hfl hfa)
  have hsl : xs.length ≤ s.size := by omega
  clear hsz hby hO hfl hfa
  have HC := Hid.mk' (fun o => copyOf_any af xs.length cf fa (w.alloc o) (hf.below ((Below.refl _ _).alloc (Nat.le_refl _) _)) (by rw [HFA.out.1]; omega) HFA.out.1)
  go_enter Try.func107, Try.ntmps107
  go_wp2_with fail
  refine (HC.out _).mono ?_
  rintro e w1 ⟨rfl, ho1, hb1⟩
  have hsz : ∀ o, (w.alloc o).heap.size = w.heap.size + 1 := fun o => by simp
  rw [hsz] at ho1 hb1
  have hv1 := OwnV.below (owned_alloc w _ _) hb1 (Nat.lt_succ_self _)
  have hb01 := ((Below.refl w.heap.size w).alloc (Nat.le_refl _) _).trans (hb1.mono (Nat.le_succ _))
  have hf2 := hv1.cell (i := 2) (by simp)
  simp only [List.getElem_cons_zero, List.getElem_cons_succ] at hf2
  have hlt1 := ho1.lt
  have hs1 := (hs.below hb01).drop 1
  rw [Nat.zero_add] at hs1
  clear hb1 HC
  go_wp2_with fail
  refine (copyOf_any _ _ _ ((buckets xs).drop 1) _ hs1 (by rw [HKL.out]; omega) HKL.out).mono ?_
  rintro e w2 ⟨rfl, ho2, hb2⟩
  have HH := Hid.mk' (And.intro (ho1.below hb2 hlt1) (And.intro ho2 (And.intro (hv1.below hb2 (by omega)) (hb01.trans (hb2.mono hb01.size)))))
  clear hv1 ho1 hb01 ho2 hb2 hs1 hf2 hs hf
  have n1 : w1.heap.size ≠ w.heap.size + 1 := by omega
  have n2 : w.heap.size + 1 ≠ w1.heap.size := by omega
  have n3 : w1.heap.size ≠ w.heap.size := by omega
  have n4 : w.heap.size ≠ w1.heap.size := by omega
  have n5 : w.heap.size + 1 ≠ w.heap.size := by omega
  go_wp2
  go_loopw [7] (fun i wr => ∃ (k : Nat) (arr ends : List Int), k ≤ xs.length ∧ i = .int .i64 ((k : Int) - 1) ∧ Hid (Rise xs L k arr ends) ∧ Hid (Own wr (w.heap.size + 1) arr) ∧ Hid (Own wr w1.heap.size ends) ∧ Hid (OwnV wr w.heap.size 87 [.string s, .slice ad xs.length cd, .slice (some ⟨gs, 0, none⟩) (kinds xs + 1) (kinds xs + 1)]) ∧ Hid (Below w.heap.size w wr)) (fun i _ => (intOf i + 1).toNat)
  case atStart => exact ⟨xs.length, _, _, Nat.le_refl _, rfl, Rise.start HOr.out HFA.out.1 HFA.out.2, HH.out.1, HH.out.2.1, HH.out.2.2.1, HH.out.2.2.2⟩
  case round =>
    clear HH
    obtain ⟨k, arr, ends, hk2, rfl, HL, H1, H2, HV, HB⟩ := hrel
    cases k with
    | zero =>
      have HE := Hid.mk' (HL.out.done HOr.out)
      go_wp2
      go_ret
      exact ⟨_, rfl, by omega, by rw [← HE.out]; exact H1.out, HB.out⟩
    | succ m =>
      have hmx : m < xs.length := by omega
      obtain ⟨o, ho, hox⟩ := HL.out.read HOr.out hmx
      have hca := H1.out.cell (i := m) (by rw [HL.out.len]; exact hmx)
      rw [ho] at hca
      rw [show ((m + 1 : Nat) : Int) - 1 = (m : Int) by omega]
      cases o with
      | zero =>
        have HS := Hid.mk' (HL.out.skip HOr.out hmx (fun p hp => by rw [ho] at hp; omega))
        have hca' : wr.cell? ⟨w.heap.size + 1, m, none⟩ = some (.int .i64 0) := hca
        clear ho hca
        go_wp2
        go_roundw
        case rel => exact ⟨m, arr, ends, by omega, by go_num, HS, H1, H2, HV, HB⟩
        case measure => simp [intOf]
      | succ p =>
        have hpe : (((p + 1 : Nat) : Int)) - 1 = (p : Int) := by omega
        have hpx : p < xs.length := by omega
        have hf0 := HV.out.cell (i := 0) (by simp)
        have hf1 := HV.out.cell (i := 1) (by simp)
        simp only [List.getElem_cons_zero, List.getElem_cons_succ] at hf0 hf1
        have hps : p < s.size := by omega
        have hby := HBY.out p hps
        cases hg : gt xs p with
        | true =>
          have HS := Hid.mk' (HL.out.skip HOr.out hmx (fun q hq => by rw [ho] at hq; obtain rfl : q = p := by omega
                                                                      exact hg))
          have hbe : ((s[p].toNat : Int) != 76) = false := by rw [hby, (kd_L_iff xs p).2 hg]; rfl
          clear ho hby hg
          go_wp2
          go_roundw
          case rel => exact ⟨m, arr, ends, by omega, by go_num, HS, H1, H2, HV, HB⟩
          case measure => simp [intOf]
        | false =>
          obtain ⟨-, hD, z, hz, hzx, hza, hR⟩ := HL.out.draw HOr.out hmx ho hg
          obtain ⟨D, hDD⟩ : ∃ D, dN xs p = D := ⟨_, rfl⟩
          have hDk : D < kinds xs := by rw [← hDD]; exact dN_lt hpx
          rw [hDD] at hD hz hR
          have HR := Hid.mk' hR
          have hrd := hd.below HB.out
          have hpd : p < (dense xs).length := by rw [dense_length]; exact hpx
          obtain ⟨bd, od, rfl, hbd, hcd0⟩ := hd.at hpd
          have hcd := hrd.cell hpd
          rw [dN_at, hDD] at hcd
          have hce := H2.out.cell hD
          rw [hz] at hce
          have hfe := H2.out.frozen D
          obtain ⟨u, hcz⟩ : ∃ u, wr.cell? ⟨w.heap.size + 1, z, none⟩ = some u := ⟨_, H1.out.cell hza⟩
          have hfz := H1.out.frozen z
          have hbe : ((s[p].toNat : Int) != 76) = true := by rw [hby]; simp [kd_L_iff, hg]
          clear hcd0 hrd hDD hz hR hD hza hpd hby hg ho
          go_wp2
          go_roundw
          case rel => exact ⟨m, _, _, by omega, by go_num, HR, (H1.out.other n1 _).set z _, (H2.out.set D _).other n2 _, (HV.out.other n3 _).other n5 _, (HB.out.setCell (by show w.heap.size ≤ w1.heap.size; omega) _).setCell (by show w.heap.size ≤ w.heap.size + 1; omega) _⟩
          case measure => simp [intOf]

theorem drawRising_any (s : ByteArray) (ad : Option Addr) (gs cd : Nat) (af : Option Addr) (cf : Nat) (xs L fa : List Int) (w : World) (hO : Ord xs L) (hd : Rd w ad (dense xs)) (hs : Rd w (some ⟨gs, 0, none⟩) (buckets xs)) (hf : Rd w af fa) (hl : xs.length ≤ 1073741822) (hsz : s.size = xs.length) (hby : ∀ i (h : i < s.size), (s[i].toNat : Int) = kd xs i) (hfl : fa.length = xs.length) (hfa : ∀ p, p < xs.length → gt xs p = true → fa.getD (ps L p) 0 = (p : Int)) :
    Calls Try.prog 107 #[.agg #[.string s, .slice ad xs.length cd, .slice (some ⟨gs, 0, none⟩) (kinds xs + 1) (kinds xs + 1)], .slice af xs.length cf] w fun e w' => ∃ g, e = .returned (.slice (some ⟨g, 0, none⟩) xs.length xs.length) ∧ w.heap.size ≤ g ∧ Own w' g L ∧ Below w.heap.size w w' := by
  by_cases hk0 : kinds xs = 0
  · obtain rfl := kinds_zero hk0
    obtain rfl := ord_nil hO
    exact drawRising_nil s ad gs cd af cf w
  · exact drawRising_some s ad gs cd af cf xs L fa w hO hd hs hf hl hsz hby hfl hfa hk0

set_option maxHeartbeats 1600000 in
set_option maxRecDepth 100000 in
theorem drawnIn_any (a am : Option Addr) (cap cm len : Nat) (xs L : List Int) (w : World) (hr : Rd w a xs) (hm : Rd w am (ordMarks xs L)) (hO : Ord xs L) (hl : xs.length ≤ 1073741822) (h0 : ∀ x ∈ xs, 0 ≤ x) (hlen : (ordMarks xs L).length = len) :
    Calls Try.prog 102 #[.slice a xs.length cap, .slice am len cm] w fun e w' => ∃ g, e = .returned (.slice (some ⟨g, 0, none⟩) xs.length xs.length) ∧ w.heap.size ≤ g ∧ Own w' g L ∧ Below w.heap.size w w' := by
  subst hlen
  have HOr := Hid.mk' hO
  have H0 := Hid.mk' h0
  have HBL := Hid.mk' (buckets_rd_length xs)
  obtain ⟨hsz, hby⟩ := kinds_string xs
  have HST := Hid.mk' (And.intro hsz hby)
  have hk := kinds_le xs
  clear hO h0 hsz hby
  go_enter Try.func102, Try.ntmps102
  go_wp2_with fail
  refine (textsKinds_any a cap xs _ hr (by omega)).mono ?_
  rintro e w1 ⟨rfl, hb1⟩
  generalize strOfNums (kindsL xs) = s at HST
  have hr1 := hr.below hb1
  go_wp2_with fail
  refine (textsDense_any a cap xs _ hr1 (by omega) H0.out).mono ?_
  rintro e w2 ⟨gd, hgd, rfl, hod, hb2⟩
  have hr2 := hr1.below hb2
  have hltd := hod.lt
  have hb02 := hb1.trans (hb2.mono hb1.size)
  go_wp2_with fail
  refine (textsBuckets_any a cap xs _ hr2 (by omega) H0.out).mono ?_
  rintro e w3 ⟨gs, hgs, rfl, hos, hb3⟩
  rw [HBL.out]
  have hb03 := hb02.trans (hb3.mono hb02.size)
  have hs3 := hb03.size
  have hod3 := hod.below hb3 hltd
  have hm3 := hm.below hb03
  have HDF := Hid.mk' (fun o => drawFalling_any s (some ⟨gd, 0, none⟩) gs xs.length am cm xs L (w3.alloc o) HOr.out (hod3.alloc o).rd (hos.alloc o).rd (hm3.below ((Below.refl _ _).alloc (Nat.le_refl _) _)) hl HST.out.1 HST.out.2)
  have HB3 := Hid.mk' (And.intro hod3 (And.intro hos hb03))
  clear hr1 hr2 hb1 hb2 hb3 hod hod3 hos hm3 hb03 hb02 hr hm
  go_wp2_with fail
  refine (HDF.out _).mono ?_
  rintro e w4 ⟨gf, fa, rfl, hgf, hof, hfl, hfa, hb4⟩
  have HFA := Hid.mk' (And.intro hfl hfa)
  have hsz : ∀ o, (w3.alloc o).heap.size = w3.heap.size + 1 := fun o => by simp
  rw [hsz] at hgf hb4
  have hv4 := OwnV.below (owned_alloc w3 _ _) hb4 (Nat.lt_succ_self _)
  have hb34 := ((Below.refl w3.heap.size w3).alloc (Nat.le_refl _) _).trans (hb4.mono (Nat.le_succ _))
  have hf0 := hv4.cell (i := 0) (by simp)
  have hf1 := hv4.cell (i := 1) (by simp)
  have hf2 := hv4.cell (i := 2) (by simp)
  simp only [List.getElem_cons_zero, List.getElem_cons_succ] at hf0 hf1 hf2
  have hod4 := (HB3.out.1.below hb34 HB3.out.1.lt).rd
  have hos4 := (HB3.out.2.1.below hb34 HB3.out.2.1.lt).rd
  have hof4 := hof.rd
  have hs4 := hb34.size
  have HB4 := Hid.mk' (HB3.out.2.2.trans (hb34.mono hs3))
  clear hfl hfa hv4 hb4 hb34 hof HDF
  go_wp2_with fail
  refine (drawRising_any s _ gs _ _ _ xs L fa _ HOr.out hod4 hos4 hof4 hl HST.out.1 HST.out.2 HFA.out.1 HFA.out.2).mono ?_
  rintro e w5 ⟨g, rfl, hg, ho, hb5⟩
  go_wp2
  go_ret
  exact ⟨g, rfl, by omega, ho, HB4.out.trans (hb5.mono HB4.out.size)⟩

end Go.Proofs.Ytdhehffdddbmbaa
