/-
  RefBefore: the walks of the document's own Before, Longest.
-/
import Derived.Test.YtdhehffdddbmbaaRefShared
namespace Go.Proofs.Ytdhehffdddbmbaa
open Go.RowKit

/-! ### Before and Longest -/

/-- The first k of the order have their neighbour laid down. -/
def BefTo (xs L bs : List Int) (k : Nat) : Prop := bs.length = xs.length ∧ ∀ i, i < k → bs[(L.getD i 0).toNat]? = some (beforeAt L i)
theorem BefTo.step {xs L bs : List Int} {k p : Nat} (hO : Ord xs L) (h : BefTo xs L bs k) (hk : k < xs.length) (hp : L.getD k 0 = p) : BefTo xs L (bs.set p (beforeAt L k)) (k + 1) := by
  obtain ⟨h1, h2⟩ := h
  have hpl := OrdTo.at hO hk
  refine ⟨by simpa using h1, fun i hi => ?_⟩
  rcases Nat.lt_or_ge i k with h | h
  · rw [List.getElem?_set_ne]
    · exact h2 i h
    · intro e
      have hi2 := OrdTo.at hO (i := i) (by omega)
      have := OrdTo.inj hO (i := i) (j := k) (by omega) hk (by omega)
      omega
  · obtain rfl : i = k := by omega
    rw [hp, Int.toNat_natCast, List.getElem?_set_self (by omega)]
theorem BefTo.done {xs L bs : List Int} {k : Nat} (hO : Ord xs L) (h : BefTo xs L bs k) (hk : xs.length ≤ k) : IsBefore xs L bs :=
  ⟨h.1, fun i hi => h.2 i (by rw [OrdTo.length hO] at hi; omega)⟩

set_option maxHeartbeats 1600000 in
set_option maxRecDepth 100000 in
theorem refBefore_any (a : Option Addr) (cap : Nat) (xs : List Int) (w : World) (hr : Rd w a xs) (hl : xs.length ≤ 1073741823) (hcap : xs.length ≤ cap) :
    Calls Try.prog 34 #[.slice a xs.length cap] w fun e w' => ∃ g L bs, w.heap.size ≤ g ∧ Ord xs L ∧ IsBefore xs L bs ∧ e = .returned (.slice (some ⟨g, 0, none⟩) xs.length xs.length) ∧ Own w' g bs ∧ Below w.heap.size w w' := by
  obtain ⟨i0, hi, hz0, hz1, hz2⟩ := info_parts Try.info3
  have hml : xs.length ≤ maxLen := by unfold maxLen; omega
  go_enter Try.func34, Try.ntmps34
  go_wp2_with fail
  refine (refOrder_any _ _ xs _ hr hl hcap).mono ?_
  rintro e w1 ⟨r, L, hO, rfl, hown, hb1⟩
  obtain ⟨A, cL, rfl, hrL, hLn, hnc, hcm⟩ := owns_slice hown
  have HLn := Hid.mk' hLn
  have HOr := Hid.mk' hO
  clear hLn hown hO
  go_wp2_with (at_make; refine wpList_make_full _ rfl _ _ 22 rfl w1.heap.size 3 i0 (.int .i64 0) 1 Try.underlying22 hi hz0 hz1 _ _ _ _ xs.length rfl rfl (by omega) (by omega) ?b2 hml (Nat.le_refl _) ?_)
  case b2 => rw [hz2]; omega
  intro w2 hown0 hgrow0
  obtain ⟨ho, hb2, hs2⟩ := made_row hown0 hgrow0
  clear hown0 hgrow0
  go_wp2
  go_loopw [5] (fun i wr => ∃ (k : Nat) (bs : List Int), k ≤ xs.length ∧ i = .int .i64 k ∧ Hid (BefTo xs L bs k) ∧ Hid (Own wr w1.heap.size bs) ∧ Hid (Below w1.heap.size w1 wr)) (fun i _ => xs.length - (intOf i).toNat)
  case atStart => exact ⟨0, _, Nat.zero_le _, rfl, ⟨by simp, by omega⟩, ho, hb2⟩
  case round =>
    clear ho hb2 hs2
    obtain ⟨k, bs, hk, rfl, HC, HO, HB⟩ := hrel
    by_cases hlt : k < xs.length
    · have hkL : k < L.length := by have := HLn.out; omega
      have hro := hrL.below HB.out
      have hat := OrdTo.at HOr.out hlt
      obtain ⟨b', off', rfl, hb', hc'⟩ := hrL.at hkL
      have hc1 := hro.cell hkL
      obtain ⟨p, hp⟩ : ∃ p : Nat, L.getD k 0 = p := ⟨(L.getD k 0).toNat, by omega⟩
      rw [hp] at hc1
      have hpx : p < xs.length := by omega
      have HS := Hid.mk' (HC.out.step HOr.out hlt hp)
      have hlen : p < bs.length := by have := HC.out.1; omega
      obtain ⟨u, hcell⟩ : ∃ u, wr.cell? ⟨w1.heap.size, p, none⟩ = some u := ⟨_, HO.out.cell hlen⟩
      have hfz := HO.out.frozen p
      have hne : b' ≠ w1.heap.size := by omega
      have hne' : w1.heap.size ≠ b' := by omega
      cases k with
      | zero =>
        have HS2 : Hid (BefTo xs L (bs.set p (-1)) 1) := HS
        rw [Nat.add_zero] at hc1
        clear hc' hp hat HS hro
        go_wp2
        go_roundw
        case rel => exact ⟨1, _, by omega, by go_num, HS2, HO.out.set p _, HB.out.setCell (Nat.le_refl _) _⟩
        case measure => simp [intOf]; omega
      | succ m =>
        have hmL : m < L.length := by omega
        have hcm1 := hro.cell hmL
        have hat2 := OrdTo.at HOr.out (i := m) (by omega)
        obtain ⟨p2, hp2⟩ : ∃ p : Nat, L.getD m 0 = p := ⟨(L.getD m 0).toNat, by omega⟩
        rw [hp2] at hcm1
        have hbf : beforeAt L (m + 1) = (p2 : Int) := by simp only [beforeAt]; rw [if_neg (by omega), show m + 1 - 1 = m by omega, hp2]
        rw [Hid, hbf] at HS
        have HS2 : Hid (BefTo xs L ((bs.set p (-1)).set p (p2 : Int)) (m + 1 + 1)) := by rw [List.set_set]; exact HS
        obtain ⟨kk, hkk⟩ : ∃ kk : Nat, m + 1 = kk := ⟨_, rfl⟩
        have hwr : IntKind.i64.wrap ((kk : Int) - 1) = (m : Int) := by
          rw [show (kk : Int) - 1 = (m : Int) by omega]; exact i64_wrap_small (by omega) (by omega)
        rw [hkk] at hc1 HS2 ⊢
        have z1 : (0 : Int) ≤ (m : Int) := by omega
        have z2 : (m : Int) < (xs.length : Int) := by omega
        have z3 : (0 : Int) ≤ (kk : Int) := by omega
        have z4 : (kk : Int) < (xs.length : Int) := by omega
        have z5 : (0 : Int) ≤ (p : Int) := by omega
        have z6 : (p : Int) < (xs.length : Int) := by omega
        have hkk0 : 0 < kk := by omega
        have hkx : kk ≤ xs.length := by omega
        have hkl2 : kk < xs.length := by omega
        have HKK := Hid.mk' hkk
        clear hc' hp hat HS hro hp2 hat2 hbf hkk hlt hk hkL
        go_wp2
        go_region_held3 (fun w' => w'.cell? ⟨b', off' + m, none⟩ = some (.int .i64 p2) ∧ w'.cell? ⟨b', off' + kk, none⟩ = some (.int .i64 p)) (go_keep) (fail)
        go_wp2
        go_roundw
        case rel => exact ⟨kk + 1, _, by omega, by go_num, HS2, ((HO.out.set p _).drewN _).set p _, ((HB.out.setCell (Nat.le_refl _) _).drew).setCell (Nat.le_refl _) _⟩
        case measure => simp [intOf]; omega
    · have HN := Hid.mk' (HC.out.done HOr.out (by omega))
      go_wp2
      go_ret
      exact ⟨w1.heap.size, L, bs, hb1.size, HOr.out, HN.out, rfl, HO.out, hb1.trans (HB.out.mono hb1.size)⟩

/-- P11: Longest, out of Before. -/
def longAt (xs bs : List Int) (i : Nat) : Int := if 0 ≤ bs.getD i 0 then cm xs (bs.getD i 0).toNat i else 0
def longest (xs bs : List Int) : List Int := (List.range xs.length).map (longAt xs bs)

theorem IsBefore.range {xs L bs : List Int} (hO : Ord xs L) (h : IsBefore xs L bs) {p : Nat} (hp : p < xs.length) : -1 ≤ bs.getD p 0 ∧ bs.getD p 0 < xs.length := by
  obtain ⟨i, hi, he⟩ := OrdTo.place hO hp
  have h1 := h.2 i (by rw [OrdTo.length hO]; exact hi)
  rw [he, Int.toNat_natCast] at h1
  rw [List.getD, h1, Option.getD_some]
  unfold beforeAt
  split
  · omega
  · have := OrdTo.at hO (i := i - 1) (by omega)
    omega

set_option maxHeartbeats 1600000 in
set_option maxRecDepth 100000 in
theorem refLongest_any (a : Option Addr) (cap : Nat) (xs : List Int) (w : World) (hr : Rd w a xs) (hl : xs.length ≤ 1073741823) (hcap : xs.length ≤ cap) :
    Calls Try.prog 35 #[.slice a xs.length cap] w fun e w' => ∃ g L bs, w.heap.size ≤ g ∧ Ord xs L ∧ IsBefore xs L bs ∧ e = .returned (.slice (some ⟨g, 0, none⟩) xs.length xs.length) ∧ Own w' g (longest xs bs) ∧ Below w.heap.size w w' := by
  obtain ⟨i0, hi, hz0, hz1, hz2⟩ := info_parts Try.info3
  have hml : xs.length ≤ maxLen := by unfold maxLen; omega
  go_enter Try.func35, Try.ntmps35
  go_wp2_with fail
  refine (refBefore_any _ _ xs _ hr hl hcap).mono ?_
  rintro e w1 ⟨g, L, bs, hg, hO, hbs, rfl, hob, hb1⟩
  have HBL := Hid.mk' hbs.1
  have HRg := Hid.mk' (fun p hp => hbs.range hO (p := p) hp)
  have HOr := Hid.mk' (And.intro hO hbs)
  have hlt1 := hob.lt
  clear hO hbs
  go_wp2_with (at_make; refine wpList_make_full _ rfl _ _ 22 rfl w1.heap.size 3 i0 (.int .i64 0) 1 Try.underlying22 hi hz0 hz1 _ _ _ _ xs.length rfl rfl (by omega) (by omega) ?b2 hml (Nat.le_refl _) ?_)
  case b2 => rw [hz2]; omega
  intro w2 hown0 hgrow0
  obtain ⟨ho, hb2, hs2⟩ := made_row hown0 hgrow0
  clear hown0 hgrow0
  have HBo := Hid.mk' hob
  clear hob
  go_wp2
  go_loopw [5] (fun i wr => ∃ (k : Nat) (ds : List Int), k ≤ xs.length ∧ i = .int .i64 k ∧ Hid (Cnt (longAt xs bs) xs.length ds k 0) ∧ Hid (Own wr w1.heap.size ds) ∧ Hid (Below w1.heap.size w1 wr)) (fun i _ => xs.length - (intOf i).toNat)
  case atStart => exact ⟨0, _, Nat.zero_le _, rfl, Cnt.start _ _, ho, hb2⟩
  case round =>
    clear ho hb2 hs2
    obtain ⟨k, ds, hk, rfl, HC, HO, HB⟩ := hrel
    by_cases hlt : k < xs.length
    · have hrg := HRg.out k hlt
      have hrx := (hr.below hb1).below HB.out
      have hcb := (HBo.out.below HB.out hlt1).cell (i := k) (by rw [HBL.out]; exact hlt)
      have hlen : k < ds.length := by have := HC.out.1; omega
      obtain ⟨u, hcell⟩ : ∃ u, wr.cell? ⟨w1.heap.size, k, none⟩ = some u := ⟨_, HO.out.cell hlen⟩
      have hfz := HO.out.frozen k
      by_cases h0 : 0 ≤ bs.getD k 0
      · obtain ⟨p, hp⟩ : ∃ p : Nat, bs.getD k 0 = p := ⟨(bs.getD k 0).toNat, by omega⟩
        rw [hp] at hcb
        have hpx : p < xs.length := by omega
        have HS := Hid.mk' ((HC.out.set (cm xs p k : Int)).next (by unfold longAt; rw [if_pos h0, hp]; rfl))
        clear h0 hp hrg
        go_wp2_with fail
        refine (common_any _ _ xs p k _ hrx (by omega) (by omega) (by omega)).mono ?_
        rintro e w3 ⟨rfl, q, rfl⟩
        go_wp2
        go_roundw
        case rel => exact ⟨k + 1, _, by omega, by go_num, HS, (HO.out.drewN q).set k _, (below_drewN HB.out q).setCell (Nat.le_refl _) _⟩
        case measure => simp [intOf]; omega
      · have hneg : bs.getD k 0 = -1 := by omega
        rw [hneg] at hcb
        have HS := Hid.mk' (HC.out.next (by unfold longAt; rw [if_neg h0]))
        clear h0 hneg hrg hrx
        go_wp2
        go_roundw
        case rel => exact ⟨k + 1, ds, by omega, by go_num, HS, HO, HB⟩
        case measure => simp [intOf]; omega
    · have HN := Hid.mk' (HC.out.done (by omega))
      go_wp2
      go_ret
      exact ⟨w1.heap.size, L, bs, hb1.size, HOr.out.1, HOr.out.2, rfl, by rw [show longest xs bs = ds from HN.out.symm]; exact HO.out, hb1.trans (HB.out.mono hb1.size)⟩

end Go.Proofs.Ytdhehffdddbmbaa
