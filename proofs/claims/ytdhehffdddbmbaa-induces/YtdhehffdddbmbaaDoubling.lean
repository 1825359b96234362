/-
  Doubling: P8, P10: the walks of the program's Order by doubling.
-/
import Derived.Test.YtdhehffdddbmbaaRanks
import Derived.Test.YtdhehffdddbmbaaMBase
namespace Go.Proofs.Ytdhehffdddbmbaa
open Go.RowKit

set_option maxHeartbeats 400000 in
theorem rankAt_any (a : Option Addr) (len cap : Nat) (xs : List Int) (h i : Nat) (w : World) (hr : Rd w a (ranks xs h)) (hn : xs.length = len) :
    Calls Try.prog 104 #[.slice a len cap, .int .i64 i] w fun e w' => e = .returned (.int .i64 (pr xs h i)) ∧ w' = w := by
  subst hn
  by_cases hi : i < xs.length
  · have HP := Hid.mk' (pr_in (y := h) hi)
    obtain ⟨b, off, rfl, hb, hc⟩ := hr.at (i := i) (by rw [ranks_length]; exact hi)
    have hc1 := hc i (by rw [ranks_length]; exact hi)
    rw [ranks_at xs h i hi] at hc1
    clear hc hr
    go_enter Try.func104, Try.ntmps104
    go_wp2
    go_ret
    exact ⟨ret_int HP.out.symm, rfl⟩
  · have HP := Hid.mk' (pr_out (y := h) hi)
    clear hr
    go_enter Try.func104, Try.ntmps104
    go_wp2
    go_ret
    exact ⟨ret_int HP.out.symm, rfl⟩

theorem dl_ne {xs : List Int} {h i j : Nat} (hi : i < xs.length) (hj : j < xs.length) (hne : ¬ rk xs h j = rk xs h i) : lt (fst xs j (h + h)) (fst xs i (h + h)) = decide (rk xs h j < rk xs h i) := by
  rw [Bool.eq_iff_iff, dbl_iff hi hj]
  simp
  omega
theorem dl_eq {xs : List Int} {h i j : Nat} (hi : i < xs.length) (hj : j < xs.length) (h0 : 0 < h) (he : rk xs h j = rk xs h i) : lt (fst xs j (h + h)) (fst xs i (h + h)) = decide (pr xs h (j + h) < pr xs h (i + h)) := by
  rw [Bool.eq_iff_iff, dbl_iff hi hj]
  simp [he, h0]

set_option maxHeartbeats 800000 in
theorem isLesser_any (a : Option Addr) (len cap : Nat) (xs : List Int) (h i j : Nat) (w : World) (hr : Rd w a (ranks xs h)) (hn : xs.length = len) (hl : xs.length ≤ 1073741824) (hh : h ≤ 1073741824) (h0 : 0 < h) (hi : i < xs.length) (hj : j < xs.length) (v : Bool) (hv : lt (fst xs j (h + h)) (fst xs i (h + h)) = v) :
    Calls Try.prog 98 #[.slice a len cap, .int .i64 h, .int .i64 j, .int .i64 i] w fun e w' => e = .returned (.bool v) ∧ ∃ q, w' = w.drewN q := by
  subst hn; subst hv
  obtain ⟨b, off, rfl, hb, hc⟩ := hr.at (i := i) (by rw [ranks_length]; exact hi)
  have hc1 := hc i (by rw [ranks_length]; exact hi)
  have hc2 := hc j (by rw [ranks_length]; exact hj)
  rw [ranks_at xs h i hi] at hc1
  rw [ranks_at xs h j hj] at hc2
  clear hc
  by_cases he : rk xs h j = rk xs h i
  · have HS := Hid.mk' (dl_eq hi hj h0 he)
    have hbe : ((rk xs h j : Int) != (rk xs h i : Int)) = false := by simp [he]
    clear he
    have HR := Hid.mk' (fun q k => rankAt_any (some ⟨b, off, none⟩) xs.length cap xs h k (w.drewN q) hr rfl)
    clear hr
    go_enter Try.func98, Try.ntmps98
    go_wp2
    go_quiet (fail)
    go_wp2_with fail
    refine (HR.out _ (j + h)).mono ?_
    rintro e w1 ⟨rfl, rfl⟩
    go_wp2_with fail
    refine (HR.out _ (i + h)).mono ?_
    rintro e w2 ⟨rfl, rfl⟩
    go_wp2
    go_ret
    exact ⟨ret_bool HS.out.symm, _, rfl⟩
  · have HS := Hid.mk' (dl_ne hi hj he)
    have hbe : ((rk xs h j : Int) != (rk xs h i : Int)) = true := by simp; omega
    clear he hr
    go_enter Try.func98, Try.ntmps98
    go_wp2
    go_quiet (fail)
    go_wp2
    go_quiet (fail)
    go_wp2
    go_ret
    exact ⟨ret_bool HS.out.symm, by simp only [World.drewN_drewN]; exact ⟨_, rfl⟩⟩

set_option maxHeartbeats 1600000 in
set_option maxRecDepth 100000 in
theorem doubled_any (a : Option Addr) (cap : Nat) (xs : List Int) (h : Nat) (w : World) (hr : Rd w a (ranks xs h)) (hl : xs.length ≤ 1073741824) (hh : h ≤ 1073741824) (h0 : 0 < h) :
    Calls Try.prog 80 #[.slice a xs.length cap, .int .i64 h] w fun e w' => e = .returned (.slice (some ⟨w.heap.size, 0, none⟩) xs.length xs.length) ∧ Own w' w.heap.size (ranks xs (h + h)) ∧ Below w.heap.size w w' := by
  obtain ⟨i0, hi, hz0, hz1, hz2⟩ := info_parts Try.info3
  have hml : xs.length ≤ maxLen := by unfold maxLen; omega
  go_enter Try.func80, Try.ntmps80
  go_wp2_with (at_make; refine wpList_make_full _ rfl _ _ 22 rfl w.heap.size 3 i0 (.int .i64 0) 1 Try.underlying22 hi hz0 hz1 _ _ _ _ xs.length rfl rfl (by omega) (by omega) ?b2 hml (Nat.le_refl _) ?_)
  case b2 => rw [hz2]; omega
  intro w2 hown0 hgrow0
  obtain ⟨ho, hb2, hs2⟩ := made_row hown0 hgrow0
  clear hown0 hgrow0
  go_wp2
  go_loopw [6] (fun i wr => ∃ (n : Nat) (ds : List Int), n ≤ xs.length ∧ i = .int .i64 n ∧ Hid (Cnt (fun i => (rk xs (h + h) i : Int)) xs.length ds n 0) ∧ Hid (Own wr w.heap.size ds) ∧ Hid (Below w.heap.size w wr)) (fun i _ => xs.length - (intOf i).toNat)
  case atStart => exact ⟨0, _, Nat.zero_le _, rfl, Cnt.start _ _, ho, hb2⟩
  case round =>
    clear ho hb2 hs2
    obtain ⟨n, ds, hn, rfl, HC, HO, HB⟩ := hrel
    by_cases hlt : n < xs.length
    · go_wp2
      go_loopw [7] (fun j wr => ∃ (m : Nat) (ds : List Int), m ≤ xs.length ∧ j = .int .i64 m ∧ Hid (Cnt (fun i => (rk xs (h + h) i : Int)) xs.length ds n (rkTo xs (h + h) n m)) ∧ Hid (Own wr w.heap.size ds) ∧ Hid (Below w.heap.size w wr)) (fun j _ => xs.length - (intOf j).toNat)
      case atStart => exact ⟨0, ds, Nat.zero_le _, rfl, HC, HO, HB⟩
      case round =>
        clear HC HO HB ds
        obtain ⟨m, ds, hm, rfl, HC, HO, HB⟩ := hrel
        by_cases hml2 : m < xs.length
        · have hrx := hr.below HB.out
          have hrl := rkTo_le xs (h + h) n m
          cases hv : lt (fst xs m (h + h)) (fst xs n (h + h)) with
          | true =>
            have HV := Hid.mk' hv
            have HR := Hid.mk' (rkTo_yes hv)
            clear hv
            go_wp2_with fail
            refine (isLesser_any _ _ _ xs h n m _ hrx rfl hl hh h0 hlt hml2 true HV.out).mono ?_
            rintro e w5 ⟨rfl, q, rfl⟩
            have hcell := HO.out.cell (i := n) (by rw [HC.out.1]; exact hlt)
            rw [HC.out.at hlt] at hcell
            have hfz := HO.out.frozen n
            go_wp2
            go_roundw
            case rel => exact ⟨m + 1, ds.set n ((rkTo xs (h + h) n m : Int) + 1), by omega, by go_num, by rw [HR.out]; exact HC.out.set _, (HO.out.drewN q).set n _, (below_drewN HB.out q).setCell (Nat.le_refl _) _⟩
            case measure => simp [intOf]; omega
          | false =>
            have HV := Hid.mk' hv
            have HR := Hid.mk' (rkTo_no hv)
            clear hv
            go_wp2_with fail
            refine (isLesser_any _ _ _ xs h n m _ hrx rfl hl hh h0 hlt hml2 false HV.out).mono ?_
            rintro e w5 ⟨rfl, q, rfl⟩
            go_wp2
            go_roundw
            case rel => exact ⟨m + 1, ds, by omega, by go_num, by rw [HR.out]; exact HC, HO.out.drewN q, below_drewN HB.out q⟩
            case measure => simp [intOf]; omega
        · obtain rfl : m = xs.length := by omega
          have HN := Hid.mk' (HC.out.next (by rw [rkTo_all]))
          go_wp2
          go_roundw
          case rel => exact ⟨n + 1, ds, by omega, by go_num, HN, HO, HB⟩
          case measure => simp [intOf]; omega
    · have HN := Hid.mk' (HC.out.done (by omega))
      go_wp2
      go_ret
      exact ⟨rfl, by rw [show ranks xs (h + h) = ds from HN.out.symm]; exact HO.out, HB.out⟩

theorem notin_step {l : List Int} {n m : Nat} (hm : m < l.length) {x : Int} (h : ¬ x ∈ l.take m) (hx : ¬ l[m] = x) (_hn : m < n) : ¬ x ∈ l.take (m + 1) := by
  rw [take_snoc hm]
  intro h2
  rcases List.mem_append.1 h2 with h3 | h3
  · exact h h3
  · rw [List.mem_singleton] at h3; exact hx h3.symm
theorem in_at {l : List Int} {n m : Nat} (hm : m < l.length) (hn : m < n) : l[m] ∈ l.take n := by
  refine List.mem_iff_getElem.2 ⟨m, by simp; omega, by simp⟩

set_option maxHeartbeats 800000 in
theorem allDifferent_any (a : Option Addr) (len cap : Nat) (l : List Int) (w : World) (hr : Rd w a l) (hl : l.length ≤ 1073741824) (hlen : l.length = len) (v : Bool) (hv : diff l = v) :
    Calls Try.prog 79 #[.slice a len cap] w fun e w' => e = .returned (.bool v) ∧ ∃ q, w' = w.drewN q := by
  subst hlen; subst hv
  go_enter Try.func79, Try.ntmps79
  go_wp2
  go_loopw [3] (fun i wr => ∃ n q : Nat, n ≤ l.length ∧ i = .int .i64 n ∧ Hid ((l.take n).Nodup) ∧ Hid (wr = w.drewN q)) (fun i _ => l.length - (intOf i).toNat)
  case atStart => exact ⟨0, 0, Nat.zero_le _, rfl, List.nodup_nil, rfl⟩
  case round =>
    obtain ⟨n, q, hn, rfl, HN, HW⟩ := hrel
    by_cases hlt : n < l.length
    · go_wp2
      go_loopw [4] (fun j wr => ∃ m q : Nat, m ≤ n ∧ j = .int .i64 m ∧ Hid (¬ l[n] ∈ l.take m) ∧ Hid (wr = w.drewN q)) (fun j _ => n - (intOf j).toNat)
      case atStart => exact ⟨0, q, Nat.zero_le _, rfl, by simp [Hid], HW⟩
      case round =>
        clear HW q
        obtain ⟨m, q, hm, rfl, HM, HW⟩ := hrel
        have hr1 : Rd wr a l := by rw [HW.out]; exact hr
        by_cases hmn : m < n
        · have hml : m < l.length := by omega
          obtain ⟨b, off, rfl, hb, hc⟩ := hr1.at hlt
          have hc1 := hc n hlt
          have hc2 := hc m hml
          clear hc hr1
          by_cases he : l[m] = l[n]
          · have HS := Hid.mk' (diff_no hlt (he ▸ in_at hml hmn))
            have hbe : (l[m] == l[n]) = true := by simp [he]
            clear he
            go_wp2
            go_quiet (fail)
            go_wp2
            go_ret
            exact ⟨ret_bool HS.out.symm, by rw [HW.out, World.drewN_drewN]; exact ⟨_, rfl⟩⟩
          · have HS := Hid.mk' (notin_step hml HM.out he hmn)
            have hbe : (l[m] == l[n]) = false := by simp [he]
            clear he
            go_wp2
            go_quiet (fail)
            go_wp2
            go_roundw
            case rel => exact ⟨m + 1, _, by omega, by go_num, HS, by rw [HW.out, World.drewN_drewN]; rfl⟩
            case measure => simp [intOf]; omega
        · obtain rfl : m = n := by omega
          have HS := Hid.mk' (diff_step hlt HN.out HM.out)
          go_wp2
          go_roundw
          case rel => exact ⟨m + 1, q, by omega, by go_num, HS, HW⟩
          case measure => simp [intOf]; omega
    · have HS : Hid (diff l = true) := by
        have := HN.out
        rw [List.take_of_length_le (by omega)] at this
        exact decide_eq_true this
      go_wp2
      go_ret
      exact ⟨ret_bool HS.out.symm, q, HW.out⟩

set_option maxHeartbeats 1600000 in
set_option maxRecDepth 100000 in
theorem placesByRank_any (a : Option Addr) (cap : Nat) (n : Nat) (K T : List Int) (w : World) (hr : Rd w a K) (hl : n ≤ 1073741824) (hK : Plc n K) (hTl : T.length = n) (hT : ∀ i, i < n → T[(K.getD i 0).toNat]? = some (i : Int)) :
    Calls Try.prog 81 #[.slice a n cap] w fun e w' => e = .returned (.slice (some ⟨w.heap.size, 0, none⟩) n n) ∧ Own w' w.heap.size T ∧ Below w.heap.size w w' := by
  obtain ⟨i0, hi, hz0, hz1, hz2⟩ := info_parts Try.info3
  have hml : n ≤ maxLen := by unfold maxLen; omega
  have HK := Hid.mk' hK
  have HT := Hid.mk' (And.intro hTl hT)
  clear hK hTl hT
  go_enter Try.func81, Try.ntmps81
  go_wp2_with (at_make; refine wpList_make_full _ rfl _ _ 22 rfl w.heap.size 3 i0 (.int .i64 0) 1 Try.underlying22 hi hz0 hz1 _ _ _ _ n rfl rfl (by omega) (by omega) ?b2 hml (Nat.le_refl _) ?_)
  case b2 => rw [hz2]; omega
  intro w2 hown0 hgrow0
  obtain ⟨ho, hb2, hs2⟩ := made_row hown0 hgrow0
  clear hown0 hgrow0
  go_wp2
  go_loopw [4] (fun i wr => ∃ (k : Nat) (ds : List Int), k ≤ n ∧ i = .int .i64 k ∧ Hid (Fill n K (fun i => (i : Int)) ds k) ∧ Hid (Own wr w.heap.size ds) ∧ Hid (Below w.heap.size w wr)) (fun i _ => n - (intOf i).toNat)
  case atStart => exact ⟨0, _, Nat.zero_le _, rfl, Fill.start _ _ _, ho, hb2⟩
  case round =>
    clear ho hb2 hs2
    obtain ⟨k, ds, hk, rfl, HC, HO, HB⟩ := hrel
    by_cases hlt : k < n
    · have hkK : k < K.length := by have := HK.out.len; omega
      have hro := hr.below HB.out
      have hat := HK.out.ran k hlt
      obtain ⟨b', off', rfl, hb', hc'⟩ := hr.at hkK
      have hc1 := hro.cell hkK
      obtain ⟨p, hp⟩ : ∃ p : Nat, K.getD k 0 = p := ⟨(K.getD k 0).toNat, by omega⟩
      rw [hp] at hc1
      have hpx : p < n := by omega
      have HS := Hid.mk' (HC.out.step HK.out hlt hp rfl)
      have hlen : p < ds.length := by have := HC.out.1; omega
      obtain ⟨u, hcell⟩ : ∃ u, wr.cell? ⟨w.heap.size, p, none⟩ = some u := ⟨_, HO.out.cell hlen⟩
      have hfz := HO.out.frozen p
      have hne : b' ≠ w.heap.size := by omega
      have hne' : w.heap.size ≠ b' := by omega
      clear hc' hp hat hro
      go_wp2
      go_roundw
      case rel => exact ⟨k + 1, _, by omega, by go_num, HS, HO.out.set p _, HB.out.setCell (Nat.le_refl _) _⟩
      case measure => simp [intOf]; omega
    · have HN := Hid.mk' (HC.out.done HK.out (by omega) HT.out.1 HT.out.2)
      go_wp2
      go_ret
      exact ⟨rfl, by rw [← HN.out]; exact HO.out, HB.out⟩

theorem diff_nodup {l : List Int} (h : diff l = true) : l.Nodup := of_decide_eq_true h
theorem rounds_step (xs : List Int) {n : Nat} (hn : n < 8) : roundsFrom xs (8 - n) n = if diff (ranks xs (2 ^ n)) = true then (n : Int) else roundsFrom xs (8 - (n + 1)) (n + 1) := by
  rw [show 8 - n = (8 - (n + 1)) + 1 by omega]; rfl
theorem pow_small {n p : Nat} (h : p = 2 ^ n) (hp : p < 128) : n < 7 := by
  rcases Nat.lt_or_ge n 7 with h1 | h1
  · exact h1
  · have h7 : 2 ^ 7 ≤ 2 ^ n := Nat.pow_le_pow_right (by omega) h1
    omega

end Go.Proofs.Ytdhehffdddbmbaa
