/-
  Neigh: P9: the walks of the program's two ways to what neighbours share (Kasai, Phi).
-/
import Derived.Test.YtdhehffdddbmbaaRefShared
import Derived.Test.YtdhehffdddbmbaaMBase
namespace Go.Proofs.Ytdhehffdddbmbaa
open Go.RowKit

theorem cm_pos {xs : List Int} {i j : Nat} (h : 0 < cm xs i j) : cm xs i j = cm xs (i + 1) (j + 1) + 1 := by
  rcases Nat.lt_or_ge i xs.length with hi | hi
  · rcases Nat.lt_or_ge j xs.length with hj | hj
    · by_cases he : xs[i] = xs[j]
      · exact cm_step hi hj he
      · rw [cm_stop hi hj he] at h; omega
    · rw [cm_end_right hj] at h; omega
  · rw [cm_end_left hi] at h; omega
theorem cm_skip (xs : List Int) : ∀ (k i j : Nat), k ≤ cm xs i j → cm xs i j = cm xs (i + k) (j + k) + k
  | 0, _, _, _ => rfl
  | k + 1, i, j, h => by
    have h1 := cm_pos (xs := xs) (i := i) (j := j) (by omega)
    have h2 := cm_skip xs k (i + 1) (j + 1) (by omega)
    rw [h1, h2, show i + 1 + k = i + (k + 1) by omega, show j + 1 + k = j + (k + 1) by omega]
    omega

set_option maxHeartbeats 400000 in
theorem lessOne_any (c : Nat) (w : World) (hc : c ≤ 1073741824) :
    Calls Try.prog 82 #[.int .i64 c] w fun e w' => e = .returned (.int .i64 ((c - 1 : Nat) : Int)) ∧ w' = w := by
  by_cases h : 0 < c
  · have HS : Hid (((c - 1 : Nat) : Int) = (c : Int) - 1) := by unfold Hid; omega
    go_enter Try.func82, Try.ntmps82
    go_wp2
    go_ret
    exact ⟨ret_int (by rw [HS.out]), rfl⟩
  · have HS : Hid (((c - 1 : Nat) : Int) = 0) := by unfold Hid; omega
    go_enter Try.func82, Try.ntmps82
    go_wp2
    go_ret
    exact ⟨ret_int HS.out.symm, rfl⟩

set_option maxHeartbeats 1600000 in
set_option maxRecDepth 100000 in
theorem inCommon_any (a : Option Addr) (cap : Nat) (xs : List Int) (i j k : Nat) (w : World) (hr : Rd w a xs) (hl : xs.length ≤ 1073741824) (hi : i ≤ 1073741824) (hj : j ≤ 1073741824) (hk : k ≤ cm xs i j) :
    Calls Try.prog 83 #[.slice a xs.length cap, .int .i64 i, .int .i64 j, .int .i64 k] w fun e w' => e = .returned (.int .i64 (cm xs i j)) ∧ ∃ q, w' = w.drewN q := by
  have hkl : k ≤ xs.length := by have := cm_le xs i j; omega
  have HK := Hid.mk' (cm_skip xs k i j hk)
  clear hk
  go_enter Try.func83, Try.ntmps83
  go_wp2
  go_loopw [9] (fun c wr => ∃ n q : Nat, n ≤ xs.length ∧ c = .int .i64 n ∧ Hid (cm xs i j = cm xs (i + n) (j + n) + n) ∧ Hid (wr = w.drewN q)) (fun c _ => xs.length - (intOf c).toNat)
  case atStart => exact ⟨k, 0, hkl, rfl, HK, rfl⟩
  case round =>
    clear HK
    obtain ⟨n, q, hn, rfl, HC, HW⟩ := hrel
    have hr1 : Rd wr a xs := by rw [HW.out]; exact hr
    clear hr
    by_cases h1 : i + n < xs.length
    · have hd1 : decide ((i : Int) + (n : Int) < (xs.length : Int)) = true := decide_eq_true (by omega)
      by_cases h2 : j + n < xs.length
      · have hd2 : decide ((j : Int) + (n : Int) < (xs.length : Int)) = true := decide_eq_true (by omega)
        obtain ⟨b, off, rfl, hb, hc⟩ := hr1.at h1
        have hc1 := hc (i + n) h1
        have hc2 := hc (j + n) h2
        clear hc hr1
        by_cases h3 : xs[i + n] = xs[j + n]
        · have HS := Hid.mk' (cm_step h1 h2 h3)
          have hbe : (xs[i + n] == xs[j + n]) = true := by simp [h3]
          clear h3
          go_wp2
          go_quiet (fail)
          go_wp2
          go_roundw
          case rel => exact ⟨n + 1, _, by omega, by go_num, by rw [Hid, HC.out, HS.out]; simp only [Nat.add_assoc]; omega, by rw [HW.out, World.drewN_drewN]; rfl⟩
          case measure => simp [intOf]; omega
        · have HS := Hid.mk' (cm_stop h1 h2 h3)
          have hbe : (xs[i + n] == xs[j + n]) = false := by simp [h3]
          clear h3
          go_wp2
          go_quiet (fail)
          go_wp2
          go_ret
          exact ⟨ret_int (by rw [HC.out, HS.out, Nat.zero_add]), by rw [HW.out, World.drewN_drewN]; exact ⟨_, rfl⟩⟩
      · have hd2 : decide ((j : Int) + (n : Int) < (xs.length : Int)) = false := decide_eq_false (by omega)
        have HS := Hid.mk' (cm_end_right (xs := xs) (i := i + n) (j := j + n) (by omega))
        go_wp2
        go_quiet (fail)
        go_wp2
        go_ret
        exact ⟨ret_int (by rw [HC.out, HS.out, Nat.zero_add]), by rw [HW.out, World.drewN_drewN]; exact ⟨_, rfl⟩⟩
    · have hd1 : decide ((i : Int) + (n : Int) < (xs.length : Int)) = false := decide_eq_false (by omega)
      have HS := Hid.mk' (cm_end_left (xs := xs) (i := i + n) (j := j + n) (by omega))
      go_wp2
      go_quiet (fail)
      go_wp2
      go_ret
      exact ⟨ret_int (by rw [HC.out, HS.out, Nat.zero_add]), by rw [HW.out, World.drewN_drewN]; exact ⟨_, rfl⟩⟩

set_option maxHeartbeats 1600000 in
set_option maxRecDepth 100000 in
theorem ranksOf_any (a : Option Addr) (cap : Nat) (n : Nat) (K T : List Int) (w : World) (hr : Rd w a K) (hl : n ≤ 1073741824) (hK : Plc n K) (hTl : T.length = n) (hT : ∀ i, i < n → T[(K.getD i 0).toNat]? = some (i : Int)) :
    Calls Try.prog 99 #[.slice a n cap] w fun e w' => e = .returned (.slice (some ⟨w.heap.size, 0, none⟩) n n) ∧ Own w' w.heap.size T ∧ Below w.heap.size w w' := by
  obtain ⟨i0, hi, hz0, hz1, hz2⟩ := info_parts Try.info3
  have hml : n ≤ maxLen := by unfold maxLen; omega
  have HK := Hid.mk' hK
  have HT := Hid.mk' (And.intro hTl hT)
  clear hK hTl hT
  go_enter Try.func99, Try.ntmps99
  go_wp2_with (at_make; refine wpList_make_full _ rfl _ _ 22 rfl w.heap.size 3 i0 (.int .i64 0) 1 Try.underlying22 hi hz0 hz1 _ _ _ _ n rfl rfl (by omega) (by omega) ?b2 hml (Nat.le_refl _) ?_)
  case b2 => rw [hz2]; omega
  intro w2 hown0 hgrow0
  obtain ⟨ho, hb2, hs2⟩ := made_row hown0 hgrow0
  clear hown0 hgrow0
  go_wp2
  go_loopw [4] (fun i wr => ∃ (k : Nat) (ds : List Int), k ≤ n ∧ i = .int .i64 k ∧ Hid (Fill n K (fun i => (i : Int)) ds k) ∧ Hid (Own wr w.heap.size ds) ∧ Hid (Below w.heap.size w wr)) (fun i _ => n - (intOf i).toNat)
  case atStart => exact ⟨0, _, Nat.zero_le _, rfl, Fill.start _ _ _, ho, hb2⟩
  case round =>
    clear ho hb2 hs2
    obtain ⟨k, ds, hk, rfl, HC, HO, HB⟩ := hrel
    by_cases hlt : k < n
    · have hkK : k < K.length := by have := HK.out.len; omega
      have hro := hr.below HB.out
      have hat := HK.out.ran k hlt
      obtain ⟨b', off', rfl, hb', hc'⟩ := hr.at hkK
      have hc1 := hro.cell hkK
      obtain ⟨p, hp⟩ : ∃ p : Nat, K.getD k 0 = p := ⟨(K.getD k 0).toNat, by omega⟩
      rw [hp] at hc1
      have hpx : p < n := by omega
      have HS := Hid.mk' (HC.out.step HK.out hlt hp rfl)
      have hlen : p < ds.length := by have := HC.out.1; omega
      obtain ⟨u, hcell⟩ : ∃ u, wr.cell? ⟨w.heap.size, p, none⟩ = some u := ⟨_, HO.out.cell hlen⟩
      have hfz := HO.out.frozen p
      have hne : b' ≠ w.heap.size := by omega
      have hne' : w.heap.size ≠ b' := by omega
      clear hc' hp hat hro
      go_wp2
      go_roundw
      case rel => exact ⟨k + 1, _, by omega, by go_num, HS, HO.out.set p _, HB.out.setCell (Nat.le_refl _) _⟩
      case measure => simp [intOf]; omega
    · have HN := Hid.mk' (HC.out.done HK.out (by omega) HT.out.1 HT.out.2)
      go_wp2
      go_ret
      exact ⟨rfl, by rw [← HN.out]; exact HO.out, HB.out⟩

/-- What is known at a place ahead of the work there: what the place ahead of it shares. -/
def kn (xs L : List Int) : Nat → Nat
  | 0 => 0
  | p + 1 => lg xs L p
theorem kn_le (xs L : List Int) (k : Nat) : kn xs L k ≤ xs.length := by
  cases k with
  | zero => exact Nat.zero_le _
  | succ p => have := lg_le xs L p; simp only [kn]; omega
theorem kn_next {xs L : List Int} (hO : Ord xs L) {k b : Nat} (hk : k < xs.length) (h0 : ps L k ≠ 0) (hb : L.getD (ps L k - 1) 0 = b) : kn xs L k - 1 ≤ cm xs k b := by
  cases k with
  | zero => simp [kn]
  | succ p => have := lg_next hO hk h0; rw [hb, Int.toNat_natCast] at this; exact this
theorem lg_zero {xs L : List Int} {k : Nat} (h0 : ps L k = 0) : lg xs L k = 0 := by unfold lg; rw [if_pos h0]
theorem lg_pos {xs L : List Int} {k b : Nat} (h0 : ps L k ≠ 0) (hb : L.getD (ps L k - 1) 0 = b) : lg xs L k = cm xs k b := by unfold lg; rw [if_neg h0, hb, Int.toNat_natCast]

set_option maxHeartbeats 3200000 in
set_option maxRecDepth 100000 in
theorem kasai_any (a a' : Option Addr) (cap cap' : Nat) (xs L : List Int) (w : World) (hr : Rd w a xs) (hr' : Rd w a' L) (hl : xs.length ≤ 1073741823) (hO : Ord xs L) :
    Calls Try.prog 84 #[.slice a xs.length cap, .slice a' xs.length cap'] w fun e w' => ∃ g, e = .returned (.slice (some ⟨g, 0, none⟩) xs.length xs.length) ∧ w.heap.size ≤ g ∧ Own w' g (shared xs L) ∧ Below w.heap.size w w' := by
  obtain ⟨i0, hi, hz0, hz1, hz2⟩ := info_parts Try.info3
  have hml : xs.length ≤ maxLen := by unfold maxLen; omega
  have HOr := Hid.mk' hO
  have HPl := Hid.mk' (Plc.poss hO)
  have HLn := Hid.mk' (OrdTo.length hO)
  clear hO
  go_enter Try.func84, Try.ntmps84
  go_wp2_with fail
  refine (ranksOf_any _ _ xs.length L (poss L xs.length) _ hr' (by omega) (Plc.ord HOr.out) (poss_length _ _) (poss_ord HOr.out)).mono ?_
  rintro e w1 ⟨rfl, ho1, hb1⟩
  have hlt1 := ho1.lt
  have HO1 := Hid.mk' ho1
  clear ho1
  go_wp2_with (at_make; refine wpList_make_full _ rfl _ _ 22 rfl w1.heap.size 3 i0 (.int .i64 0) 1 Try.underlying22 hi hz0 hz1 _ _ _ _ xs.length rfl rfl (by omega) (by omega) ?b2 hml (Nat.le_refl _) ?_)
  case b2 => rw [hz2]; omega
  intro w2 hown0 hgrow0
  obtain ⟨ho, hb2, hs2⟩ := made_row hown0 hgrow0
  clear hown0 hgrow0
  go_wp2
  go_loopw [7, 8] (fun c i wr => ∃ (k z : Nat) (ds : List Int), k ≤ xs.length ∧ z ≤ xs.length ∧ i = .int .i64 k ∧ c = .int .i64 z ∧ Hid (z = kn xs L k) ∧ Hid (Fill xs.length (poss L xs.length) (fun p => (lg xs L p : Int)) ds k) ∧ Hid (Own wr w1.heap.size ds) ∧ Hid (Below w1.heap.size w1 wr)) (fun _ i _ => xs.length - (intOf i).toNat)
  case atStart => exact ⟨0, 0, _, Nat.zero_le _, Nat.zero_le _, rfl, rfl, rfl, Fill.start _ _ _, ho, hb2⟩
  case round =>
    clear ho hb2 hs2
    obtain ⟨k, z, ds, hk, hz, rfl, rfl, HZ, HC, HO, HB⟩ := hrel
    by_cases hlt : k < xs.length
    · have hrx := (hr.below hb1).below HB.out
      have hro := (hr'.below hb1).below HB.out
      obtain ⟨r, hrr⟩ : ∃ r : Nat, ps L k = r := ⟨_, rfl⟩
      have hcr := (HO1.out.below HB.out hlt1).cell (i := k) (by rw [poss_length]; exact hlt)
      rw [poss_at L hlt, hrr] at hcr
      have hrn : r < xs.length := by have := ps_lt HOr.out hlt; omega
      have hlen : r < ds.length := by have := HC.out.1; omega
      obtain ⟨u, hcell⟩ : ∃ u, wr.cell? ⟨w1.heap.size, r, none⟩ = some u := ⟨_, HO.out.cell hlen⟩
      have hfz := HO.out.frozen r
      have HST := Hid.mk' (fun (y : Int) (hy : y = lg xs L k) => HC.out.step HPl.out hlt (show (poss L xs.length).getD k 0 = r by rw [poss_at L hlt, hrr]) hy)
      by_cases hr0 : r = 0
      · have HG := Hid.mk' (lg_zero (xs := xs) (hrr.trans hr0))
        subst hr0
        clear hrr
        go_wp2_with fail
        refine (lessOne_any z _ (by omega)).mono ?_
        rintro e w3 ⟨rfl, rfl⟩
        go_wp2
        go_roundw
        case rel => exact ⟨k + 1, 0, _, by omega, Nat.zero_le _, by go_num, rfl, HG.out.symm, HST.out _ (by rw [HG.out]; rfl), HO.out.set 0 _, HB.out.setCell (Nat.le_refl _) _⟩
        case measure => simp [intOf]; omega
      · have hm1 : r - 1 < L.length := by have := HLn.out; omega
        have hat := OrdTo.at HOr.out (i := r - 1) (by omega)
        obtain ⟨b, hb⟩ : ∃ b : Nat, L.getD (r - 1) 0 = b := ⟨(L.getD (r - 1) 0).toNat, by omega⟩
        have hbn : b < xs.length := by omega
        have HG := Hid.mk' (lg_pos (xs := xs) (k := k) (b := b) (by rw [hrr]; exact hr0) (by rw [hrr]; exact hb))
        have HKn := Hid.mk' (kn_next HOr.out (k := k) (b := b) hlt (by rw [hrr]; exact hr0) (by rw [hrr]; exact hb))
        obtain ⟨m, hm⟩ : ∃ m : Nat, r = m + 1 := ⟨r - 1, by omega⟩
        have hwr : IntKind.i64.wrap ((r : Int) - 1) = (m : Int) := by
          rw [show (r : Int) - 1 = (m : Int) by omega]; exact i64_wrap_small (by omega) (by omega)
        rw [show r - 1 = m by omega] at hm1 hb
        obtain ⟨b', off', rfl, hb', hc'⟩ := hr'.at hm1
        have hco := hro.cell hm1
        rw [hb] at hco
        have hmL : m < xs.length := by omega
        have z1 : (0 : Int) ≤ (m : Int) := by omega
        have z2 : (m : Int) < (xs.length : Int) := by omega
        have hr0' : ((r : Int) == 0) = false := by simp; omega
        have hcl := cm_le xs k b
        clear hrr hat hb hro hc' hm hm1 hr0
        go_wp2_with fail
        refine (lessOne_any z _ (by omega)).mono ?_
        rintro e w3 ⟨rfl, rfl⟩
        go_wp2_with fail
        refine (inCommon_any _ _ xs k b (z - 1) _ hrx (by omega) (by omega) (by omega) (by rw [HZ.out]; exact HKn.out)).mono ?_
        rintro e w4 ⟨rfl, q, rfl⟩
        go_wp2
        go_roundw
        case rel => exact ⟨k + 1, cm xs k b, _, by omega, by omega, by go_num, rfl, HG.out.symm, HST.out _ (by rw [HG.out]), (HO.out.drewN q).set r _, (below_drewN HB.out q).setCell (Nat.le_refl _) _⟩
        case measure => simp [intOf]; omega
    · have HN := Hid.mk' (HC.out.done HPl.out (by omega) ((shared_length xs L).trans HLn.out) (fun i hi => by rw [poss_at L hi, Int.toNat_natCast]; exact shared_ps HOr.out hi))
      go_wp2
      go_ret
      exact ⟨_, rfl, hb1.size, by rw [← HN.out]; exact HO.out, hb1.trans (HB.out.mono hb1.size)⟩

/-- For each place who stands ahead of it; -1 for the first. -/
def befs (L : List Int) (n : Nat) : List Int := (List.range n).map (fun p => beforeAt L (ps L p))
theorem befs_length (L : List Int) (n : Nat) : (befs L n).length = n := by simp [befs]
theorem befs_at (L : List Int) {n p : Nat} (h : p < n) : (befs L n).getD p 0 = beforeAt L (ps L p) := by simp [befs, List.getD, h]
theorem befs_ord {xs L : List Int} (hO : Ord xs L) (i : Nat) (hi : i < xs.length) : (befs L xs.length)[(L.getD i 0).toNat]? = some (beforeAt L i) := by
  have h := OrdTo.at hO hi
  have := ps_of hO hi
  simp only [befs, List.getElem?_map]
  rw [List.getElem?_range (by omega), Option.map_some, this]
theorem beforeAt_succ (L : List Int) (k : Nat) : beforeAt L (k + 1) = L.getD k 0 := by unfold beforeAt; rw [if_neg (by omega), Nat.add_sub_cancel]

set_option maxHeartbeats 1600000 in
set_option maxRecDepth 100000 in
theorem beforeEach_any (a : Option Addr) (cap : Nat) (xs L : List Int) (w : World) (hr : Rd w a L) (hl : xs.length ≤ 1073741824) (hO : Ord xs L) :
    Calls Try.prog 60 #[.slice a xs.length cap] w fun e w' => e = .returned (.slice (some ⟨w.heap.size, 0, none⟩) xs.length xs.length) ∧ Own w' w.heap.size (befs L xs.length) ∧ Below w.heap.size w w' := by
  obtain ⟨i0, hi, hz0, hz1, hz2⟩ := info_parts Try.info3
  have hml : xs.length ≤ maxLen := by unfold maxLen; omega
  have HK := Hid.mk' (Plc.ord hO)
  have HOr := Hid.mk' hO
  clear hO
  go_enter Try.func60, Try.ntmps60
  go_wp2_with (at_make; refine wpList_make_full _ rfl _ _ 22 rfl w.heap.size 3 i0 (.int .i64 0) 1 Try.underlying22 hi hz0 hz1 _ _ _ _ xs.length rfl rfl (by omega) (by omega) ?b2 hml (Nat.le_refl _) ?_)
  case b2 => rw [hz2]; omega
  intro w2 hown0 hgrow0
  obtain ⟨ho, hb2, hs2⟩ := made_row hown0 hgrow0
  clear hown0 hgrow0
  go_wp2
  go_loopw [4, 5] (fun z i wr => ∃ (k : Nat) (y : Int) (ds : List Int), k ≤ xs.length ∧ i = .int .i64 k ∧ z = .int .i64 y ∧ Hid (y = beforeAt L k) ∧ Hid (Fill xs.length L (beforeAt L) ds k) ∧ Hid (Own wr w.heap.size ds) ∧ Hid (Below w.heap.size w wr)) (fun _ i _ => xs.length - (intOf i).toNat)
  case atStart => exact ⟨0, -1, _, Nat.zero_le _, rfl, rfl, rfl, Fill.start _ _ _, ho, hb2⟩
  case round =>
    clear ho hb2 hs2
    obtain ⟨k, y, ds, hk, rfl, rfl, HY, HC, HO, HB⟩ := hrel
    by_cases hlt : k < xs.length
    · have hkK : k < L.length := by have := HK.out.len; omega
      have hro := hr.below HB.out
      have hat := HK.out.ran k hlt
      obtain ⟨b', off', rfl, hb', hc'⟩ := hr.at hkK
      have hc1 := hro.cell hkK
      obtain ⟨p, hp⟩ : ∃ p : Nat, L.getD k 0 = p := ⟨(L.getD k 0).toNat, by omega⟩
      rw [hp] at hc1
      have hpx : p < xs.length := by omega
      have HS := Hid.mk' (HC.out.step HK.out hlt hp HY.out)
      have HB2 := Hid.mk' ((beforeAt_succ L k).trans hp)
      have hlen : p < ds.length := by have := HC.out.1; omega
      obtain ⟨u, hcell⟩ : ∃ u, wr.cell? ⟨w.heap.size, p, none⟩ = some u := ⟨_, HO.out.cell hlen⟩
      have hfz := HO.out.frozen p
      have hne : b' ≠ w.heap.size := by omega
      have hne' : w.heap.size ≠ b' := by omega
      clear hc' hp hat hro
      go_wp2
      go_roundw
      case rel => exact ⟨k + 1, (p : Int), _, by omega, by go_num, rfl, HB2.out.symm, HS, HO.out.set p _, HB.out.setCell (Nat.le_refl _) _⟩
      case measure => simp [intOf]; omega
    · have HN := Hid.mk' (HC.out.done HK.out (by omega) (befs_length L xs.length) (befs_ord HOr.out))
      go_wp2
      go_ret
      exact ⟨rfl, by rw [← HN.out]; exact HO.out, HB.out⟩

/-- For each place what it shares with the one ahead of it. -/
def lgs (xs L : List Int) : List Int := (List.range xs.length).map (fun p => (lg xs L p : Int))
theorem lgs_length (xs L : List Int) : (lgs xs L).length = xs.length := by simp [lgs]
theorem lgs_at (xs L : List Int) {p : Nat} (h : p < xs.length) : (lgs xs L).getD p 0 = lg xs L p := by simp [lgs, List.getD, h]
theorem before_zero {L : List Int} {k : Nat} (h : ps L k = 0) : beforeAt L (ps L k) = -1 := by unfold beforeAt; rw [if_pos h]
theorem before_pos {L : List Int} {k : Nat} (h : ps L k ≠ 0) : beforeAt L (ps L k) = L.getD (ps L k - 1) 0 := by unfold beforeAt; rw [if_neg h]

set_option maxHeartbeats 3200000 in
set_option maxRecDepth 100000 in
theorem longestOf_any (a a' : Option Addr) (cap cap' : Nat) (xs L : List Int) (w : World) (hr : Rd w a xs) (hr' : Rd w a' (befs L xs.length)) (hl : xs.length ≤ 1073741823) (hO : Ord xs L) :
    Calls Try.prog 61 #[.slice a xs.length cap, .slice a' xs.length cap'] w fun e w' => e = .returned (.slice (some ⟨w.heap.size, 0, none⟩) xs.length xs.length) ∧ Own w' w.heap.size (lgs xs L) ∧ Below w.heap.size w w' := by
  obtain ⟨i0, hi, hz0, hz1, hz2⟩ := info_parts Try.info3
  have hml : xs.length ≤ maxLen := by unfold maxLen; omega
  have HOr := Hid.mk' hO
  clear hO
  go_enter Try.func61, Try.ntmps61
  go_wp2_with (at_make; refine wpList_make_full _ rfl _ _ 22 rfl w.heap.size 3 i0 (.int .i64 0) 1 Try.underlying22 hi hz0 hz1 _ _ _ _ xs.length rfl rfl (by omega) (by omega) ?b2 hml (Nat.le_refl _) ?_)
  case b2 => rw [hz2]; omega
  intro w2 hown0 hgrow0
  obtain ⟨ho, hb2, hs2⟩ := made_row hown0 hgrow0
  clear hown0 hgrow0
  go_wp2
  go_loopw [6, 7] (fun c i wr => ∃ (k z : Nat) (ds : List Int), k ≤ xs.length ∧ z ≤ xs.length ∧ i = .int .i64 k ∧ c = .int .i64 z ∧ Hid (z = kn xs L k) ∧ Hid (Cnt (fun p => (lg xs L p : Int)) xs.length ds k 0) ∧ Hid (Own wr w.heap.size ds) ∧ Hid (Below w.heap.size w wr)) (fun _ i _ => xs.length - (intOf i).toNat)
  case atStart => exact ⟨0, 0, _, Nat.zero_le _, Nat.zero_le _, rfl, rfl, rfl, Cnt.start _ _, ho, hb2⟩
  case round =>
    clear ho hb2 hs2
    obtain ⟨k, z, ds, hk, hz, rfl, rfl, HZ, HC, HO, HB⟩ := hrel
    by_cases hlt : k < xs.length
    · have hrx := hr.below HB.out
      have hro := hr'.below HB.out
      have hkb : k < (befs L xs.length).length := by rw [befs_length]; exact hlt
      obtain ⟨b', off', rfl, hb', hc'⟩ := hr'.at hkb
      have hco := hro.cell hkb
      rw [befs_at L hlt] at hco
      have hlen : k < ds.length := by have := HC.out.1; omega
      obtain ⟨u, hcell⟩ : ∃ u, wr.cell? ⟨w.heap.size, k, none⟩ = some u := ⟨_, HO.out.cell hlen⟩
      have hfz := HO.out.frozen k
      have hne : b' ≠ w.heap.size := by omega
      have hne' : w.heap.size ≠ b' := by omega
      by_cases hr0 : ps L k = 0
      · have HG := Hid.mk' (lg_zero (xs := xs) hr0)
        rw [before_zero hr0] at hco
        clear hr0 hc' hro hkb
        go_wp2_with fail
        refine (lessOne_any z _ (by omega)).mono ?_
        rintro e w3 ⟨rfl, rfl⟩
        go_wp2
        go_roundw
        case rel => exact ⟨k + 1, 0, _, by omega, Nat.zero_le _, by go_num, rfl, HG.out.symm, (HC.out.set _).next (by rw [HG.out]; rfl), HO.out.set k _, HB.out.setCell (Nat.le_refl _) _⟩
        case measure => simp [intOf]; omega
      · rw [before_pos hr0] at hco
        have hps := ps_lt HOr.out hlt
        have hat := OrdTo.at HOr.out (i := ps L k - 1) (by omega)
        obtain ⟨b, hb⟩ : ∃ b : Nat, L.getD (ps L k - 1) 0 = b := ⟨(L.getD (ps L k - 1) 0).toNat, by omega⟩
        have hbn : b < xs.length := by omega
        have HG := Hid.mk' (lg_pos (xs := xs) (k := k) (b := b) hr0 hb)
        have HKn := Hid.mk' (kn_next HOr.out (k := k) (b := b) hlt hr0 hb)
        rw [hb] at hco
        have hcl := cm_le xs k b
        clear hr0 hc' hro hkb hat hb hps
        go_wp2_with fail
        refine (lessOne_any z _ (by omega)).mono ?_
        rintro e w3 ⟨rfl, rfl⟩
        go_wp2_with fail
        refine (inCommon_any _ _ xs k b (z - 1) _ hrx (by omega) (by omega) (by omega) (by rw [HZ.out]; exact HKn.out)).mono ?_
        rintro e w4 ⟨rfl, q, rfl⟩
        go_wp2
        go_roundw
        case rel => exact ⟨k + 1, cm xs k b, _, by omega, by omega, by go_num, rfl, HG.out.symm, (HC.out.set _).next (by rw [HG.out]), (HO.out.drewN q).set k _, (below_drewN HB.out q).setCell (Nat.le_refl _) _⟩
        case measure => simp [intOf]; omega
    · have HN := Hid.mk' (HC.out.done (by omega))
      go_wp2
      go_ret
      exact ⟨rfl, by rw [show lgs xs L = ds from HN.out.symm]; exact HO.out, HB.out⟩

set_option maxHeartbeats 3200000 in
set_option maxRecDepth 100000 in
theorem phi_any (a a' : Option Addr) (cap cap' : Nat) (xs L : List Int) (w : World) (hr : Rd w a xs) (hr' : Rd w a' L) (hl : xs.length ≤ 1073741823) (hO : Ord xs L) :
    Calls Try.prog 96 #[.slice a xs.length cap, .slice a' xs.length cap'] w fun e w' => ∃ g, e = .returned (.slice (some ⟨g, 0, none⟩) xs.length xs.length) ∧ w.heap.size ≤ g ∧ Own w' g (shared xs L) ∧ Below w.heap.size w w' := by
  obtain ⟨i0, hi, hz0, hz1, hz2⟩ := info_parts Try.info3
  have hml : xs.length ≤ maxLen := by unfold maxLen; omega
  have HOr := Hid.mk' hO
  have HLn := Hid.mk' (OrdTo.length hO)
  clear hO
  go_enter Try.func96, Try.ntmps96
  go_wp2_with fail
  refine (beforeEach_any _ _ xs L _ hr' (by omega) HOr.out).mono ?_
  rintro e w1 ⟨rfl, ho1, hb1⟩
  have hr1 := hr.below hb1
  go_wp2_with fail
  refine (longestOf_any _ _ _ _ xs L _ hr1 ho1.rd hl HOr.out).mono ?_
  rintro e w3 ⟨rfl, ho3, hb3⟩
  have hlt3 := ho3.lt
  have HO3 := Hid.mk' ho3
  have hb13 : Below w.heap.size w w3 := hb1.trans (hb3.mono hb1.size)
  have hro3 := hr'.below hb13
  have hs13 := hb3.size
  have hs01 := hb1.size
  clear ho1 ho3 hb1 hb3 hr1
  go_wp2_with (at_make; refine wpList_make_full _ rfl _ _ 22 rfl w3.heap.size 3 i0 (.int .i64 0) 1 Try.underlying22 hi hz0 hz1 _ _ _ _ xs.length rfl rfl (by omega) (by omega) ?b2 hml (Nat.le_refl _) ?_)
  case b2 => rw [hz2]; omega
  intro w2 hown0 hgrow0
  obtain ⟨ho, hb2, hs2⟩ := made_row hown0 hgrow0
  clear hown0 hgrow0
  go_wp2
  go_loopw [8] (fun i wr => ∃ (k : Nat) (ds : List Int), k ≤ xs.length ∧ i = .int .i64 k ∧ Hid (Cnt (sharedAt xs L) xs.length ds k 0) ∧ Hid (Own wr w3.heap.size ds) ∧ Hid (Below w3.heap.size w3 wr)) (fun i _ => xs.length - (intOf i).toNat)
  case atStart => exact ⟨0, _, Nat.zero_le _, rfl, Cnt.start _ _, ho, hb2⟩
  case round =>
    clear ho hb2 hs2
    obtain ⟨k, ds, hk, rfl, HC, HO, HB⟩ := hrel
    by_cases hlt : k < xs.length
    · have hkL : k < L.length := by have := HLn.out; omega
      have hro := hro3.below HB.out
      have hat := OrdTo.at HOr.out hlt
      obtain ⟨b', off', rfl, hb', hc'⟩ := hr'.at hkL
      have hc1 := hro.cell hkL
      obtain ⟨p, hp⟩ : ∃ p : Nat, L.getD k 0 = p := ⟨(L.getD k 0).toNat, by omega⟩
      rw [hp] at hc1
      have hpx : p < xs.length := by omega
      have hcl := (HO3.out.below HB.out hlt3).cell (i := p) (by rw [lgs_length]; exact hpx)
      rw [lgs_at xs L hpx] at hcl
      have HG : Hid ((lg xs L p : Int) = sharedAt xs L k) := by
        have h1 := ps_of HOr.out hlt
        rw [hp, Int.toNat_natCast] at h1
        rw [Hid, ← sharedAt_ps HOr.out hpx, h1]
      have hlen : k < ds.length := by have := HC.out.1; omega
      obtain ⟨u, hcell⟩ : ∃ u, wr.cell? ⟨w3.heap.size, k, none⟩ = some u := ⟨_, HO.out.cell hlen⟩
      have hfz := HO.out.frozen k
      have hne : b' ≠ w3.heap.size := by omega
      have hne' : w3.heap.size ≠ b' := by omega
      have hne1 : w1.heap.size ≠ w3.heap.size := by omega
      have hne2 : w3.heap.size ≠ w1.heap.size := by omega
      have z3 : (0 : Int) ≤ (k : Int) := by omega
      have z4 : (k : Int) < (xs.length : Int) := by omega
      have z5 : (0 : Int) ≤ (p : Int) := by omega
      have z6 : (p : Int) < (xs.length : Int) := by omega
      clear hc' hp hat hro
      go_wp2
      go_roundw
      case rel => exact ⟨k + 1, _, by omega, by go_num, (HC.out.set _).next HG.out, HO.out.set k _, HB.out.setCell (Nat.le_refl _) _⟩
      case measure => simp [intOf]; omega
    · have HN := Hid.mk' (HC.out.done (by omega))
      have HSh : Hid (shared xs L = ds) := by unfold shared Hid; rw [HLn.out]; exact HN.out.symm
      go_wp2
      go_ret
      exact ⟨_, rfl, hb13.size, by rw [HSh.out]; exact HO.out, hb13.trans (HB.out.mono hb13.size)⟩

end Go.Proofs.Ytdhehffdddbmbaa
