/-
  TurnC: P15: the walks of the program's way by turns: what is no L from the right, the L from the left, Sort.
-/
import Derived.Test.YtdhehffdddbmbaaTurnB
import Derived.Test.YtdhehffdddbmbaaDense
namespace Go.Proofs.Ytdhehffdddbmbaa
open Go.RowKit

/-! ### The last free place -/

set_option maxHeartbeats 800000 in
theorem lastFree_any (b off cap len : Nat) (arr : List Int) (z E : Nat) (w : World) (hr : Rd w (some ⟨b, off, none⟩) arr) (hl : arr.length ≤ 1073741822) (hz : z < E) (hE : E ≤ arr.length) (h1 : arr.getD z 0 = -1) (h2 : ∀ j, z < j → j < E → arr.getD j 0 ≠ -1) (hlen : arr.length = len) :
    Calls Try.prog 116 #[.slice (some ⟨b, off, none⟩) len cap, .int .i64 E] w fun e w' => e = .returned (.int .i64 z) ∧ ∃ q, w' = w.drewN q := by
  subst hlen
  have H1 := Hid.mk' h1
  have H2 := Hid.mk' h2
  clear h1 h2
  go_enter Try.func116, Try.ntmps116
  go_wp2
  go_loopw [5] (fun i wr => ∃ k q : Nat, z ≤ k ∧ k < E ∧ i = .int .i64 k ∧ Hid (wr = w.drewN q)) (fun i _ => (intOf i).toNat)
  case atStart => exact ⟨E - 1, 0, by omega, by omega, by go_num, rfl⟩
  case round =>
    obtain ⟨k, q, hk, hkE, rfl, HW⟩ := hrel
    have hr1 : Rd wr (some ⟨b, off, none⟩) arr := by rw [HW.out]; exact hr
    clear hr
    have hka : k < arr.length := by omega
    have hc := hr1.cell hka
    by_cases hkz : k = z
    · have HZ := Hid.mk' hkz
      rw [hkz, H1.out, ← hkz] at hc
      clear hr1 hkz
      by_cases h0 : k = 0
      · have h0' : ¬ (0 : Int) < (k : Int) := by omega
        have HK : Hid ((k : Int) = z) := by rw [Hid, HZ.out]
        clear h0 hc
        go_wp2
        go_ret
        exact ⟨ret_int HK.out, q, HW.out⟩
      · have h0' : (0 : Int) < (k : Int) := by omega
        have HK : Hid ((k : Int) = z) := by rw [Hid, HZ.out]
        clear h0
        go_wp2
        go_ret
        exact ⟨ret_int HK.out, q, HW.out⟩
    · have hne := H2.out k (by omega) hkE
      obtain ⟨v, hv⟩ : ∃ v, arr.getD k 0 = v := ⟨_, rfl⟩
      rw [hv] at hc hne
      have hb : (v != -1) = true := by simpa using hne
      have h0 : (0 : Int) < (k : Int) := by omega
      clear hne hr1 hv
      go_wp2
      go_roundw
      case rel => exact ⟨k - 1, q, by omega, by omega, by go_num, HW⟩
      case measure => simp [intOf]; omega

/-! ### What is no L, from the right -/

section
variable {xs L : List Int} (hO : Ord xs L)
include hO
theorem RiseT.skipFree {i : Nat} {arr : List Int} (h : RiseT xs L (i + 1) arr) (hg : gt xs (L.getD i 0).toNat = true) : RiseT xs L i arr := by
  refine RiseT.skip hO h (fun p hp hps h1 => ?_)
  have := ps_at hO hp
  rw [hps] at this
  rw [this, Int.toNat_natCast, h1] at hg
  cases hg
theorem RiseT.skipAt {i o : Nat} {arr : List Int} (h : RiseT xs L (i + 1) arr) (ho : o < xs.length) (hps : ps L o = i) (hg : ∀ p, p + 1 = o → gt xs p = true) : RiseT xs L i arr :=
  RiseT.skip hO h (fun p hp hp2 _ => hg p (ps_inj hO hp ho (by omega)))
end
theorem bucket_end {xs : List Int} {p : Nat} (hp : p < xs.length) : (buckets xs).getD (dN xs p + 1) 0 = (be xs (sy xs p) : Int) := by
  have h := (Heads.ends xs).at' p hp
  rw [← h]; simp [List.getD, Nat.add_comm]

theorem alloc2_cell {w : World} {g : Nat} {la : List Int} (hf : Rd w (some ⟨g, 0, none⟩) la) (o o' : Obj) (j : Nat) (u : Value) (hu : (la.map (Value.int .i64))[j]? = some u) : ((w.alloc o).alloc o').cell? ((⟨g, 0, none⟩ : Addr).add j) = some u := by
  have hj : j < la.length := by have := (List.getElem?_eq_some_iff.1 hu).1; simpa using this
  have h1 := (hf.below (((Below.refl _ w).alloc (Nat.le_refl _) o).alloc (by simp) o')).cell hj
  rw [Nat.zero_add] at h1
  rw [show (⟨g, 0, none⟩ : Addr).add j = ⟨g, j, none⟩ by unfold Addr.add; split <;> simp_all, h1]
  simp [List.getD] at hu ⊢
  obtain ⟨x, hx, rfl⟩ := hu
  simp [hx]
theorem one_le (w : World) (o : Obj) : w.heap.size + 1 ≤ (w.alloc o).heap.size := by simp
theorem two_le (w : World) (o o' : Obj) : w.heap.size + 1 ≤ ((w.alloc o).alloc o').heap.size := by simp
theorem len_one {la : List Int} {n : Nat} (h : la.length = n) : (la.map (Value.int .i64)).length = n * 1 := by simp [h]
theorem int_one {la : List Int} (u : Value) (hu : u ∈ la.map (Value.int .i64)) : u.oneCell' = true := by
  obtain ⟨x, _, rfl⟩ := List.mem_map.1 hu; rfl

theorem appended {w1 : World} {B n : Nat} {g0 : Addr} {v' : Value} {la : List Int} (hown : w1.ownsRow B 3 1 v' (0 + n) ([] ++ la.map (Value.int .i64))) (hnone : v' = .slice none 0 0 ↔ Value.slice (some g0) 0 0 = .slice none 0 0 ∧ n = 0) :
    ∃ g c, v' = .slice (some ⟨g, 0, none⟩) n c ∧ B ≤ g ∧ n ≤ c ∧ OwnC w1 g c la := by
  rw [Nat.zero_add, List.nil_append] at hown
  obtain ⟨g, c, h1, h2, h3, h4, h5⟩ := OwnC.of hown (fun h => by have := (hnone.1 h).1; cases this)
  exact ⟨g, c, h1, h2, h3, h5⟩
theorem boxed {w w1 : World} {T : TypeId} {cs : List Value} {o : Obj} {n c : Nat} (hgrow : ((w.alloc (.cells cs.toArray T)).alloc o).grownBy w1 (Value.slice (some ⟨w.heap.size + 1, 0, none⟩) n c).ownBlock) : OwnV w1 w.heap.size T cs ∧ Below w.heap.size w w1 ∧ w.heap.size + 2 ≤ w1.heap.size := by
  refine ⟨((owned_alloc w _ _).alloc _).kept hgrow (by simp [Value.ownBlock]), ?_, ?_⟩
  · exact (((Below.refl w.heap.size w).alloc (Nat.le_refl _) _).alloc (by simp) _).grown hgrow (by simp; omega) (fun k hk => by cases hk; exact Nat.le_succ _)
  · have := hgrow.size
    simpa using this

set_option maxHeartbeats 3200000 in
set_option maxRecDepth 100000 in
theorem tdrawRising_any (s : ByteArray) (ad : Option Addr) (gs cd gl cl : Nat) (xs L la : List Int) (w : World) (hO : Ord xs L) (hd : Rd w ad (dense xs)) (hs : Rd w (some ⟨gs, 0, none⟩) (buckets xs)) (hf : Rd w (some ⟨gl, 0, none⟩) la) (hl : xs.length ≤ 1073741822) (hsz : s.size = xs.length) (hby : ∀ i (h : i < s.size), (s[i].toNat : Int) = kd xs i) (hG : Got xs L (isTurn xs) la) :
    Calls Try.prog 109 #[.agg #[.string s, .slice ad xs.length cd, .slice (some ⟨gs, 0, none⟩) (kinds xs + 1) (kinds xs + 1)], .slice (some ⟨gl, 0, none⟩) xs.length cl] w fun e w' => ∃ g c arr, e = .returned (.slice (some ⟨g, 0, none⟩) xs.length c) ∧ w.heap.size ≤ g ∧ OwnC w' g c arr ∧ Got xs L (fun q => !gt xs q) arr ∧ Below w.heap.size w w' := by
  obtain ⟨i0, hi, hz0, hz1, hz2⟩ := info_parts Try.info3
  have HOr := Hid.mk' hO
  have hk := kinds_le xs
  have HBY := Hid.mk' hby
  have HG := Hid.mk' hG
  have hsl : xs.length ≤ s.size := by omega
  have HCL := Hid.mk' (alloc2_cell hf)
  have HLL := Hid.mk' hG.len
  have HS := Hid.mk' hs
  clear hsz hby hO hG hf hs
  go_enter Try.func109, Try.ntmps109
  go_wp2_with (at_builtin; refine wpList_append_own _ rfl _ _ 22 rfl (w.heap.size + 1) 3 i0 (.int .i64 0) 1 8 Try.underlying22 hi hz0 hz1 hz2 rfl (by decide) (.slice (some ⟨w.heap.size + 1, 0, none⟩) 0 0) 0 [] rfl (owns_empty _ (one_le _ _) (by simp)) ⟨gl, 0, none⟩ xs.length cl (la.map (Value.int .i64)) rfl (len_one HLL.out) (HCL.out _ _) int_one (by unfold maxLen; omega) (by omega) (two_le _ _ _) ?_; intro v' w1 hown hgrow hnone; obtain ⟨g1, c1, rfl, hg1, hc1, ho1⟩ := appended hown hnone)
  obtain ⟨hv1, hb1, hs1⟩ := boxed hgrow
  have HH := Hid.mk' (And.intro ho1 (And.intro hv1 hb1))
  clear hown hgrow hnone ho1 hv1 hb1 HCL
  have n1 : g1 ≠ w.heap.size := by omega
  have n2 : w.heap.size ≠ g1 := by omega
  go_loopw [6] (fun i wr => ∃ (k : Nat) (arr : List Int), k ≤ xs.length ∧ i = .int .i64 ((k : Int) - 1) ∧ Hid (RiseT xs L k arr) ∧ Hid (OwnC wr g1 c1 arr) ∧ Hid (OwnV wr w.heap.size 89 [.string s, .slice ad xs.length cd, .slice (some ⟨gs, 0, none⟩) (kinds xs + 1) (kinds xs + 1)]) ∧ Hid (Below w.heap.size w wr)) (fun i _ => (intOf i + 1).toNat)
  case atStart => exact ⟨xs.length, _, Nat.le_refl _, rfl, RiseT.start HOr.out HG.out, HH.out.1, HH.out.2.1, HH.out.2.2⟩
  case round =>
    clear HH HG HLL
    obtain ⟨k, arr, hk2, rfl, HL, H1, HV, HB⟩ := hrel
    cases k with
    | zero =>
      have HE := Hid.mk' (RiseT.done HOr.out HL.out)
      go_wp2
      go_ret
      exact ⟨g1, c1, arr, rfl, by omega, H1.out, HE.out, HB.out⟩
    | succ m =>
      have hmx : m < xs.length := by omega
      have hma : m < arr.length := by rw [HL.out.len]; exact hmx
      have hca := H1.out.cell hma
      rw [show ((m + 1 : Nat) : Int) - 1 = (m : Int) by omega]
      rcases RiseT.read HOr.out HL.out hmx with ⟨hr1, hr2⟩ | ⟨o, ho, hox, hog, hops⟩
      · have HS := Hid.mk' (RiseT.skipFree HOr.out HL.out hr2)
        rw [hr1] at hca
        clear hr1 hr2
        go_wp2
        go_roundw
        case rel => exact ⟨m, arr, by omega, by go_num, HS, H1, HV, HB⟩
        case measure => simp [intOf]
      · rw [ho] at hca
        cases o with
        | zero =>
          have HS := Hid.mk' (RiseT.skipAt HOr.out HL.out hox hops (fun p hp => by omega))
          have hca' : wr.cell? ⟨g1, m, none⟩ = some (.int .i64 0) := hca
          clear ho hca hog hops
          go_wp2
          go_roundw
          case rel => exact ⟨m, arr, by omega, by go_num, HS, H1, HV, HB⟩
          case measure => simp [intOf]
        | succ p =>
          have hpe : (((p + 1 : Nat) : Int)) - 1 = (p : Int) := by omega
          have hpx : p < xs.length := by omega
          have hf0 := HV.out.cell (i := 0) (by simp)
          have hf1 := HV.out.cell (i := 1) (by simp)
          have hf2 := HV.out.cell (i := 2) (by simp)
          simp only [List.getElem_cons_zero, List.getElem_cons_succ] at hf0 hf1 hf2
          have hps : p < s.size := by omega
          have hby := HBY.out p hps
          cases hg : gt xs p with
          | true =>
            have HS := Hid.mk' (RiseT.skipAt HOr.out HL.out hox hops (fun q hq => (show q = p by omega) ▸ hg))
            have hbe : ((s[p].toNat : Int) != 76) = false := by rw [hby, (kd_L_iff xs p).2 hg]; rfl
            clear ho hby hg hog hops hf1 hf2
            go_wp2
            go_roundw
            case rel => exact ⟨m, arr, by omega, by go_num, HS, H1, HV, HB⟩
            case measure => simp [intOf]
          | false =>
            obtain ⟨z, E, hE, hzE, hEx, hal, hz1', hz2', hR⟩ := RiseT.draw HOr.out HL.out hox hops hog hg
            have HR := Hid.mk' hR
            have HZ := Hid.mk' (And.intro hal (And.intro hz1' hz2'))
            obtain ⟨D, hDD⟩ : ∃ D, dN xs p = D := ⟨_, rfl⟩
            have hDk : D < kinds xs := by rw [← hDD]; exact dN_lt hpx
            have hrd := hd.below HB.out
            have hpd : p < (dense xs).length := by rw [dense_length]; exact hpx
            obtain ⟨bd, od, rfl, hbd, hcd0⟩ := hd.at hpd
            have hcd := hrd.cell hpd
            rw [dN_at, hDD] at hcd
            have hcs := (HS.out.below HB.out).cell (i := D + 1) (by rw [buckets_length]; omega)
            rw [← hDD, bucket_end hpx, hDD, hE, Nat.zero_add] at hcs
            have hbe : ((s[p].toNat : Int) != 76) = true := by rw [hby]; simp [kd_L_iff, hg]
            obtain ⟨u, hcz⟩ : ∃ u, wr.cell? ⟨g1, z, none⟩ = some u := ⟨_, H1.out.cell (by rw [HZ.out.1]; omega)⟩
            have hfz := H1.out.frozen z
            have hrA := H1.out.rd
            clear hcd0 hrd hDD hE hR hal hz1' hz2' hpd hby hg ho hog hops
            go_wp2_with fail
            refine (lastFree_any g1 0 c1 xs.length arr z E _ hrA (by rw [HZ.out.1]; omega) hzE (by rw [HZ.out.1]; omega) HZ.out.2.1 HZ.out.2.2 HZ.out.1).mono ?_
            rintro e w2 ⟨rfl, q, rfl⟩
            clear hf0 hf1 hf2 hcs hcd hca
            go_wp2
            go_roundw
            case rel => exact ⟨m, _, by omega, by go_num, HR, (H1.out.drewN q).set z (by rw [HZ.out.1]; omega) _, (HV.out.drewN q).other n1 _, (below_drewN HB.out q).setCell (by show w.heap.size ≤ g1; omega) _⟩
            case measure => simp [intOf]

/-! ### The L, from the left -/

theorem grown_below {w w0 w1 : World} {B n c g : Nat} (hb : Below B w w0) (hB : B ≤ w0.heap.size) (hg : B ≤ g) {o : Obj} (hgrow : (w0.alloc o).grownBy w1 (Value.slice (some ⟨g, 0, none⟩) n c).ownBlock) : Below B w w1 :=
  (hb.alloc hB o).grown hgrow (by simp; omega) (fun k hk => by cases hk; exact hg)

theorem alloc_cell {w : World} {g : Nat} {la : List Int} (hf : Rd w (some ⟨g, 0, none⟩) la) (o : Obj) (j : Nat) (u : Value) (hu : (la.map (Value.int .i64))[j]? = some u) : (w.alloc o).cell? ((⟨g, 0, none⟩ : Addr).add j) = some u := by
  have hj : j < la.length := by have := (List.getElem?_eq_some_iff.1 hu).1; simpa using this
  have h1 := (hf.below ((Below.refl _ w).alloc (Nat.le_refl _) o)).cell hj
  rw [Nat.zero_add] at h1
  rw [show (⟨g, 0, none⟩ : Addr).add j = ⟨g, j, none⟩ by unfold Addr.add; split <;> simp_all, h1]
  simp [List.getD] at hu ⊢
  obtain ⟨x, hx, rfl⟩ := hu
  simp [hx]
theorem next_le (w : World) (o : Obj) {B : Nat} (h : B ≤ w.heap.size) : B ≤ (w.alloc o).heap.size := by simp; omega

set_option maxHeartbeats 3200000 in
set_option maxRecDepth 100000 in
theorem tdrawFalling_any (s : ByteArray) (ad : Option Addr) (gs cd gl cl : Nat) (xs L la : List Int) (w : World) (hO : Ord xs L) (hd : Rd w ad (dense xs)) (hs : Rd w (some ⟨gs, 0, none⟩) (buckets xs)) (hf : Rd w (some ⟨gl, 0, none⟩) la) (hl : xs.length ≤ 1073741822) (hsz : s.size = xs.length) (hby : ∀ i (h : i < s.size), (s[i].toNat : Int) = kd xs i) (hG : Got xs L (fun q => !gt xs q) la) :
    Calls Try.prog 110 #[.agg #[.string s, .slice ad xs.length cd, .slice (some ⟨gs, 0, none⟩) (kinds xs + 1) (kinds xs + 1)], .slice (some ⟨gl, 0, none⟩) xs.length cl] w fun e w' => ∃ g c, e = .returned (.slice (some ⟨g, 0, none⟩) xs.length c) ∧ w.heap.size ≤ g ∧ OwnC w' g c L ∧ Below w.heap.size w w' := by
  obtain ⟨i0, hi, hz0, hz1, hz2⟩ := info_parts Try.info3
  have HOr := Hid.mk' hO
  have hk := kinds_le xs
  have HBY := Hid.mk' hby
  have HG := Hid.mk' hG
  have hsl : xs.length ≤ s.size := by omega
  have HCL := Hid.mk' (alloc2_cell hf)
  have HLL := Hid.mk' hG.len
  have HBL := Hid.mk' (buckets_length xs)
  have HS := Hid.mk' hs
  clear hsz hby hO hG hf hs
  go_enter Try.func110, Try.ntmps110
  go_wp2_with (first
    | (at_builtin; refine wpList_append_own _ rfl (.tmp 11) (.tmp 12) 22 rfl (w.heap.size + 1) 3 i0 (.int .i64 0) 1 8 Try.underlying22 hi hz0 hz1 hz2 rfl (by decide) (.slice (some ⟨w.heap.size + 1, 0, none⟩) 0 0) 0 [] rfl (owns_empty _ (one_le _ _) (by simp)) ⟨gl, 0, none⟩ xs.length cl (la.map (Value.int .i64)) rfl (len_one HLL.out) (HCL.out _ _) int_one (by unfold maxLen; omega) (by omega) (two_le _ _ _) ?_; intro v' w1 hown hgrow hnone; obtain ⟨g1, c1, rfl, hg1, hc1, ho1⟩ := appended hown hnone; obtain ⟨hv1, hb1, hs1⟩ := boxed hgrow; have hf2 := (hv1.alloc (.cells #[] 3)).cell (i := 2) (by simp); simp only [List.getElem_cons_zero, List.getElem_cons_succ] at hf2)
    | (at_builtin; refine wpList_append_own _ rfl (.tmp 14) (.tmp 16) 22 rfl w1.heap.size 3 i0 (.int .i64 0) 1 8 Try.underlying22 hi hz0 hz1 hz2 rfl (by decide) (.slice (some ⟨w1.heap.size, 0, none⟩) 0 0) 0 [] rfl (owns_empty _ (Nat.le_refl _) rfl) ⟨gs, 0, none⟩ (kinds xs + 1) (kinds xs + 1) ((buckets xs).map (Value.int .i64)) rfl (len_one HBL.out) (alloc_cell (HS.out.below hb1) _) int_one (by unfold maxLen; omega) (by omega) (next_le _ _ (Nat.le_refl _)) ?_; intro v'' w2 hown2 hgrow2 hnone2; obtain ⟨g2, c2, rfl, hg2, hc2, ho2⟩ := appended hown2 hnone2))
  have hl1 := ho1.lt
  have HH := Hid.mk' (And.intro ((ho1.alloc _).kept hgrow2 (by simp [Value.ownBlock]; omega)) (And.intro ho2 (And.intro ((hv1.alloc _).kept hgrow2 (by simp [Value.ownBlock]; omega)) (grown_below hb1 hb1.size hb1.size hgrow2))))
  clear hown hgrow hnone ho1 hv1 hb1 HCL hf2 hown2 hgrow2 hnone2 ho2
  have n1 : g1 ≠ g2 := by omega
  have n2 : g2 ≠ g1 := by omega
  have n3 : g1 ≠ w.heap.size := by omega
  have n4 : g2 ≠ w.heap.size := by omega
  have n5 : w.heap.size ≠ g1 := by omega
  have n6 : w.heap.size ≠ g2 := by omega
  go_loopw [7] (fun i wr => ∃ (t : Nat) (kn hs : List Int), t ≤ xs.length + 1 ∧ i = .int .i64 ((t : Int) - 1) ∧ Hid (FallT xs L t kn hs) ∧ Hid (OwnC wr g1 c1 kn) ∧ Hid (OwnC wr g2 c2 hs ∧ hs.length = kinds xs + 1) ∧ Hid (OwnV wr w.heap.size 89 [.string s, .slice ad xs.length cd, .slice (some ⟨gs, 0, none⟩) (kinds xs + 1) (kinds xs + 1)]) ∧ Hid (Below w.heap.size w wr)) (fun i _ => xs.length + 1 - (intOf i + 1).toNat)
  case atStart => exact ⟨0, _, _, Nat.zero_le _, rfl, FallT.start HOr.out HG.out, HH.out.1, ⟨HH.out.2.1, HBL.out⟩, HH.out.2.2.1, HH.out.2.2.2⟩
  case round =>
    clear HH HG HLL
    obtain ⟨t, kn, hs, ht, rfl, HF, H1, H3, HV, HB⟩ := hrel
    cases t with
    | zero =>
      rw [show ((0 : Nat) : Int) - 1 = -1 from rfl]
      by_cases hn : xs.length = 0
      · have HN := Hid.mk' (FallT.none HOr.out HF.out hn)
        have hn0 : ((xs.length : Nat) : Int) = 0 := by omega
        have hlt : (-1 : Int) < (xs.length : Int) := by omega
        clear hn
        go_wp2
        go_roundw
        case rel => exact ⟨1, kn, hs, by omega, by go_num, HN, H1, H3, HV, HB⟩
        case measure => simp [intOf]
      · obtain ⟨p, hp⟩ : ∃ p, p + 1 = xs.length := ⟨xs.length - 1, by omega⟩
        have hpx : p < xs.length := by omega
        have hg : gt xs p = true := gt_last (by omega)
        obtain ⟨hD, z, hz, hzx, hzk, hFl⟩ := FallT.first HOr.out HF.out hp
        have hpe : ((xs.length : Nat) : Int) - 1 = (p : Int) := by omega
        have HP := Hid.mk' hp
        have HFl := Hid.mk' hFl
        obtain ⟨D, hDD⟩ : ∃ D, dN xs p = D := ⟨_, rfl⟩
        have hDk : D < kinds xs := by rw [← hDD]; exact dN_lt hpx
        rw [Hid, hDD] at HFl
        rw [hDD] at hD hz
        have HDZ := Hid.mk' (And.intro hD hzk)
        have hrd := hd.below HB.out
        have hpd : p < (dense xs).length := by rw [dense_length]; exact hpx
        obtain ⟨bd, od, rfl, hbd, hcd0⟩ := hd.at hpd
        have hcd := hrd.cell hpd
        rw [dN_at, hDD] at hcd
        have hch := H3.out.1.cell hD
        rw [hz] at hch
        have hfh := H3.out.1.frozen D
        obtain ⟨u, hca⟩ : ∃ u, wr.cell? ⟨g1, z, none⟩ = some u := ⟨_, H1.out.cell hzk⟩
        have hfa := H1.out.frozen z
        have hf0 := HV.out.cell (i := 0) (by simp)
        have hf1 := HV.out.cell (i := 1) (by simp)
        simp only [List.getElem_cons_zero, List.getElem_cons_succ] at hf0 hf1
        have hps : p < s.size := by omega
        have hby := HBY.out p hps
        have hbe : ((s[p].toNat : Int) == 76) = true := by rw [hby, (kd_L_iff xs p).2 hg]; rfl
        clear hcd0 hrd hDD hz hFl hD hzk hpd hby hg hn
        go_wp2
        go_roundw
        case rel => exact ⟨1, _, _, by omega, by go_num, HFl, (H1.out.set z HDZ.out.2 _).other n2 _, ⟨(H3.out.1.other n1 _).set D HDZ.out.1 _, by rw [List.length_set]; exact H3.out.2⟩, (HV.out.other n3 _).other n4 _, (HB.out.setCell (by show w.heap.size ≤ g1; omega) _).setCell (by show w.heap.size ≤ g2; omega) _⟩
        case measure => simp [intOf]
    | succ i =>
      rw [show ((i + 1 : Nat) : Int) - 1 = (i : Int) by omega]
      by_cases hi : i < xs.length
      · obtain ⟨r1, r2⟩ := FallT.range HOr.out HF.out hi
        have hik : i < kn.length := by rw [HF.out.len]; exact hi
        have hck := H1.out.cell hik
        by_cases hv0 : kn.getD i 0 ≤ 0
        · have HSk := Hid.mk' (FallT.skip HOr.out HF.out (fun p _ hp => by omega))
          generalize kn.getD i 0 = v at r1 r2 hck hv0
          go_wp2
          go_roundw
          case rel => exact ⟨i + 2, kn, hs, by omega, by go_num, HSk, H1, H3, HV, HB⟩
          case measure => simp [intOf]; omega
        · obtain ⟨p, hp⟩ : ∃ p : Nat, kn.getD i 0 = ((p + 1 : Nat) : Int) := ⟨(kn.getD i 0 - 1).toNat, by omega⟩
          rw [hp] at hck r1 r2
          have hpx1 : p + 1 < xs.length := by omega
          have hpx : p < xs.length := by omega
          have hpe : (((p + 1 : Nat) : Int)) - 1 = (p : Int) := by omega
          cases hg : gt xs p with
          | true =>
            obtain ⟨hD, z, hz, hzx, hzk, hFl⟩ := FallT.draw HOr.out HF.out hi hpx1 hp hg
            have HFl := Hid.mk' hFl
            obtain ⟨D, hDD⟩ : ∃ D, dN xs p = D := ⟨_, rfl⟩
            have hDk : D < kinds xs := by rw [← hDD]; exact dN_lt hpx
            rw [Hid, hDD] at HFl
            rw [hDD] at hD hz
            have HDZ := Hid.mk' (And.intro hD hzk)
            have hrd := hd.below HB.out
            have hpd : p < (dense xs).length := by rw [dense_length]; exact hpx
            obtain ⟨bd, od, rfl, hbd, hcd0⟩ := hd.at hpd
            have hcd := hrd.cell hpd
            rw [dN_at, hDD] at hcd
            have hch := H3.out.1.cell hD
            rw [hz] at hch
            have hfh := H3.out.1.frozen D
            obtain ⟨u, hca⟩ : ∃ u, wr.cell? ⟨g1, z, none⟩ = some u := ⟨_, H1.out.cell hzk⟩
            have hfa := H1.out.frozen z
            have hf0 := HV.out.cell (i := 0) (by simp)
            have hf1 := HV.out.cell (i := 1) (by simp)
            simp only [List.getElem_cons_zero, List.getElem_cons_succ] at hf0 hf1
            have hps : p < s.size := by omega
            have hby := HBY.out p hps
            have hbe : ((s[p].toNat : Int) == 76) = true := by rw [hby, (kd_L_iff xs p).2 hg]; rfl
            clear hcd0 hrd hDD hz hFl hD hzk hpd hby hg hp hv0
            go_wp2
            go_roundw
            case rel => exact ⟨i + 2, _, _, by omega, by go_num, HFl, (H1.out.set z HDZ.out.2 _).other n2 _, ⟨(H3.out.1.other n1 _).set D HDZ.out.1 _, by rw [List.length_set]; exact H3.out.2⟩, (HV.out.other n3 _).other n4 _, (HB.out.setCell (by show w.heap.size ≤ g1; omega) _).setCell (by show w.heap.size ≤ g2; omega) _⟩
            case measure => simp [intOf]; omega
          | false =>
            have HSk := Hid.mk' (FallT.skip HOr.out HF.out (fun q _ hq => by rw [hp] at hq; exact (show q = p by omega) ▸ hg))
            have hf0 := HV.out.cell (i := 0) (by simp)
            simp only [List.getElem_cons_zero] at hf0
            have hps : p < s.size := by omega
            have hby := HBY.out p hps
            have hbe : ((s[p].toNat : Int) == 76) = false := by rw [hby]; simp [kd_L_iff, hg]
            clear hp hv0 hby hg
            go_wp2
            go_roundw
            case rel => exact ⟨i + 2, kn, hs, by omega, by go_num, HSk, H1, H3, HV, HB⟩
            case measure => simp [intOf]; omega
      · have HD := Hid.mk' (FallT.done HOr.out HF.out (by omega))
        go_wp2
        go_ret
        exact ⟨g1, c1, rfl, by omega, by rw [← HD.out]; exact H1.out, HB.out⟩

end Go.Proofs.Ytdhehffdddbmbaa
