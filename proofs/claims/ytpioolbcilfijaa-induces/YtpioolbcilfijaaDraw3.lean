/-
  Draw3: P8, P13: the walks of the program's drawRising and drawnIn.
-/
import Derived.Test.YtpioolbcilfijaaDraw2
import Derived.Test.YtpioolbcilfijaaKinds
namespace Go.Proofs.Ytpioolbcilfijaa
open Go.RowKit

set_option maxHeartbeats 800000 in
theorem drawRising_nil (s : ByteArray) (ad : Option Addr) (gs cd : Nat) (af : Option Addr) (cf : Nat) (w : World) :
    Calls Try.prog 99 #[.agg #[.string s, .slice ad 0 cd, .slice (some ⟨gs, 0, none⟩) 1 1], .slice af 0 cf] w fun e w' => ∃ g, e = .returned (.slice (some ⟨g, 0, none⟩) 0 0) ∧ w.heap.size ≤ g ∧ Own w' g [] ∧ Below w.heap.size w w' := by
  go_enter Try.func99, Try.ntmps99
  go_wp2_with fail
  refine (copyOf_any _ _ _ [] _ (Rd.nil _ _) (by simp) rfl).mono ?_
  rintro e w1 ⟨rfl, ho1, hb1⟩
  have hsz : ∀ o, (w.alloc o).heap.size = w.heap.size + 1 := fun o => by simp
  rw [hsz] at ho1 hb1
  have hv1 := OwnV.below (owned_alloc w _ _) hb1 (Nat.lt_succ_self _)
  have hb01 := ((Below.refl w.heap.size w).alloc (Nat.le_refl _) _).trans (hb1.mono (Nat.le_succ _))
  have hf2 := hv1.cell (i := 2) (by simp)
  simp only [List.getElem_cons_zero, List.getElem_cons_succ] at hf2
  have hlt1 := ho1.lt
  clear hb1
  go_wp2_with fail
  refine (copyOf_any _ _ _ [] _ (Rd.nil _ _) (by simp) rfl).mono ?_
  rintro e w2 ⟨rfl, ho2, hb2⟩
  have R := Hid.mk' (And.intro (ho1.below hb2 hlt1) (hb01.trans (hb2.mono hb01.size)))
  clear ho1 ho2 hv1 hb01 hb2
  go_wp2
  go_loopw [7] (fun i wr => i = .int .i64 (-1) ∧ Hid (wr = w2)) (fun _ _ => 0)
  case atStart => exact ⟨rfl, rfl⟩
  case round =>
    obtain ⟨rfl, HW⟩ := hrel
    have R2 : Hid (Own wr (w.heap.size + 1) [] ∧ Below w.heap.size w wr) := by rw [HW.out]; exact R
    go_wp2
    go_ret
    exact ⟨w.heap.size + 1, rfl, by omega, R2.out.1, R2.out.2⟩

set_option maxHeartbeats 1600000 in
set_option maxRecDepth 100000 in
theorem drawRising_some (s : ByteArray) (ad : Option Addr) (gs cd : Nat) (af : Option Addr) (cf : Nat) (xs L fa : List Int) (w : World) (hO : Ord xs L) (hd : Rd w ad (dense xs)) (hs : Rd w (some ⟨gs, 0, none⟩) (buckets xs)) (hf : Rd w af fa) (hl : xs.length ≤ 1073741822) (hsz : s.size = xs.length) (hby : ∀ i (h : i < s.size), (s[i].toNat : Int) = kd xs i) (hfl : fa.length = xs.length) (hfa : ∀ p, p < xs.length → gt xs p = true → fa.getD (ps L p) 0 = (p : Int)) (hk0 : ¬ kinds xs = 0) :
    Calls Try.prog 99 #[.agg #[.string s, .slice ad xs.length cd, .slice (some ⟨gs, 0, none⟩) (kinds xs + 1) (kinds xs + 1)], .slice af xs.length cf] w fun e w' => ∃ g, e = .returned (.slice (some ⟨g, 0, none⟩) xs.length xs.length) ∧ w.heap.size ≤ g ∧ Own w' g L ∧ Below w.heap.size w w' := by
  have HOr := Hid.mk' hO
  have hk := kinds_le xs
  have HKL := Hid.mk' (ends_length xs)
  have HBY := Hid.mk' hby
  have HFA := Hid.mk' (And.intro hfl hfa)
  have hsl : xs.length ≤ s.size := by omega
  clear hsz hby hO hfl hfa
  have HC := Hid.mk' (fun o => copyOf_any af xs.length cf fa (w.alloc o) (hf.below ((Below.refl _ _).alloc (Nat.le_refl _) _)) (by rw [HFA.out.1]; omega) HFA.out.1)
  go_enter Try.func99, Try.ntmps99
  go_wp2_with fail
  refine (HC.out _).mono ?_
  rintro e w1 ⟨rfl, ho1, hb1⟩
  have hsz : ∀ o, (w.alloc o).heap.size = w.heap.size + 1 := fun o => by simp
  rw [hsz] at ho1 hb1
  have hv1 := OwnV.below (owned_alloc w _ _) hb1 (Nat.lt_succ_self _)
  have hb01 := ((Below.refl w.heap.size w).alloc (Nat.le_refl _) _).trans (hb1.mono (Nat.le_succ _))
  have hf2 := hv1.cell (i := 2) (by simp)
  simp only [List.getElem_cons_zero, List.getElem_cons_succ] at hf2
  have hlt1 := ho1.lt
  have hs1 := (hs.below hb01).drop 1
  rw [Nat.zero_add] at hs1
  clear hb1 HC
  go_wp2_with fail
  refine (copyOf_any _ _ _ ((buckets xs).drop 1) _ hs1 (by rw [HKL.out]; omega) HKL.out).mono ?_
  rintro e w2 ⟨rfl, ho2, hb2⟩
  have HH := Hid.mk' (And.intro (ho1.below hb2 hlt1) (And.intro ho2 (And.intro (hv1.below hb2 (by omega)) (hb01.trans (hb2.mono hb01.size)))))
  clear hv1 ho1 hb01 ho2 hb2 hs1 hf2 hs hf
  have n1 : w1.heap.size ≠ w.heap.size + 1 := by omega
  have n2 : w.heap.size + 1 ≠ w1.heap.size := by omega
  have n3 : w1.heap.size ≠ w.heap.size := by omega
  have n4 : w.heap.size ≠ w1.heap.size := by omega
  have n5 : w.heap.size + 1 ≠ w.heap.size := by omega
  go_wp2
  go_loopw [7] (fun i wr => ∃ (k : Nat) (arr ends : List Int), k ≤ xs.length ∧ i = .int .i64 ((k : Int) - 1) ∧ Hid (Rise xs L k arr ends) ∧ Hid (Own wr (w.heap.size + 1) arr) ∧ Hid (Own wr w1.heap.size ends) ∧ Hid (OwnV wr w.heap.size 83 [.string s, .slice ad xs.length cd, .slice (some ⟨gs, 0, none⟩) (kinds xs + 1) (kinds xs + 1)]) ∧ Hid (Below w.heap.size w wr)) (fun i _ => (intOf i + 1).toNat)
  case atStart => exact ⟨xs.length, _, _, Nat.le_refl _, rfl, Rise.start HOr.out HFA.out.1 HFA.out.2, HH.out.1, HH.out.2.1, HH.out.2.2.1, HH.out.2.2.2⟩
  case round =>
    clear HH
    obtain ⟨k, arr, ends, hk2, rfl, HL, H1, H2, HV, HB⟩ := hrel
    cases k with
    | zero =>
      have HE := Hid.mk' (HL.out.done HOr.out)
      go_wp2
      go_ret
      exact ⟨_, rfl, by omega, by rw [← HE.out]; exact H1.out, HB.out⟩
    | succ m =>
      have hmx : m < xs.length := by omega
      obtain ⟨o, ho, hox⟩ := HL.out.read HOr.out hmx
      have hca := H1.out.cell (i := m) (by rw [HL.out.len]; exact hmx)
      rw [ho] at hca
      rw [show ((m + 1 : Nat) : Int) - 1 = (m : Int) by omega]
      cases o with
      | zero =>
        have HS := Hid.mk' (HL.out.skip HOr.out hmx (fun p hp => by rw [ho] at hp; omega))
        have hca' : wr.cell? ⟨w.heap.size + 1, m, none⟩ = some (.int .i64 0) := hca
        clear ho hca
        go_wp2
        go_roundw
        case rel => exact ⟨m, arr, ends, by omega, by go_num, HS, H1, H2, HV, HB⟩
        case measure => simp [intOf]
      | succ p =>
        have hpe : (((p + 1 : Nat) : Int)) - 1 = (p : Int) := by omega
        have hpx : p < xs.length := by omega
        have hf0 := HV.out.cell (i := 0) (by simp)
        have hf1 := HV.out.cell (i := 1) (by simp)
        simp only [List.getElem_cons_zero, List.getElem_cons_succ] at hf0 hf1
        have hps : p < s.size := by omega
        have hby := HBY.out p hps
        cases hg : gt xs p with
        | true =>
          have HS := Hid.mk' (HL.out.skip HOr.out hmx (fun q hq => by rw [ho] at hq; obtain rfl : q = p := by omega
                                                                      exact hg))
          have hbe : ((s[p].toNat : Int) != 76) = false := by rw [hby, (kd_L_iff xs p).2 hg]; rfl
          clear ho hby hg
          go_wp2
          go_roundw
          case rel => exact ⟨m, arr, ends, by omega, by go_num, HS, H1, H2, HV, HB⟩
          case measure => simp [intOf]
        | false =>
          obtain ⟨-, hD, z, hz, hzx, hza, hR⟩ := HL.out.draw HOr.out hmx ho hg
          obtain ⟨D, hDD⟩ : ∃ D, dN xs p = D := ⟨_, rfl⟩
          have hDk : D < kinds xs := by rw [← hDD]; exact dN_lt hpx
          rw [hDD] at hD hz hR
          have HR := Hid.mk' hR
          have hrd := hd.below HB.out
          have hpd : p < (dense xs).length := by rw [dense_length]; exact hpx
          obtain ⟨bd, od, rfl, hbd, hcd0⟩ := hd.at hpd
          have hcd := hrd.cell hpd
          rw [dN_at, hDD] at hcd
          have hce := H2.out.cell hD
          rw [hz] at hce
          have hfe := H2.out.frozen D
          obtain ⟨u, hcz⟩ : ∃ u, wr.cell? ⟨w.heap.size + 1, z, none⟩ = some u := ⟨_, H1.out.cell hza⟩
          have hfz := H1.out.frozen z
          have hbe : ((s[p].toNat : Int) != 76) = true := by rw [hby]; simp [kd_L_iff, hg]
          clear hcd0 hrd hDD hz hR hD hza hpd hby hg ho
          go_wp2
          go_roundw
          case rel => exact ⟨m, _, _, by omega, by go_num, HR, (H1.out.other n1 _).set z _, (H2.out.set D _).other n2 _, (HV.out.other n3 _).other n5 _, (HB.out.setCell (by show w.heap.size ≤ w1.heap.size; omega) _).setCell (by show w.heap.size ≤ w.heap.size + 1; omega) _⟩
          case measure => simp [intOf]

theorem drawRising_any (s : ByteArray) (ad : Option Addr) (gs cd : Nat) (af : Option Addr) (cf : Nat) (xs L fa : List Int) (w : World) (hO : Ord xs L) (hd : Rd w ad (dense xs)) (hs : Rd w (some ⟨gs, 0, none⟩) (buckets xs)) (hf : Rd w af fa) (hl : xs.length ≤ 1073741822) (hsz : s.size = xs.length) (hby : ∀ i (h : i < s.size), (s[i].toNat : Int) = kd xs i) (hfl : fa.length = xs.length) (hfa : ∀ p, p < xs.length → gt xs p = true → fa.getD (ps L p) 0 = (p : Int)) :
    Calls Try.prog 99 #[.agg #[.string s, .slice ad xs.length cd, .slice (some ⟨gs, 0, none⟩) (kinds xs + 1) (kinds xs + 1)], .slice af xs.length cf] w fun e w' => ∃ g, e = .returned (.slice (some ⟨g, 0, none⟩) xs.length xs.length) ∧ w.heap.size ≤ g ∧ Own w' g L ∧ Below w.heap.size w w' := by
  by_cases hk0 : kinds xs = 0
  · obtain rfl := kinds_zero hk0
    obtain rfl := ord_nil hO
    exact drawRising_nil s ad gs cd af cf w
  · exact drawRising_some s ad gs cd af cf xs L fa w hO hd hs hf hl hsz hby hfl hfa hk0

set_option maxHeartbeats 1600000 in
set_option maxRecDepth 100000 in
theorem drawnIn_any (a am : Option Addr) (cap cm len : Nat) (xs L : List Int) (w : World) (hr : Rd w a xs) (hm : Rd w am (ordMarks xs L)) (hO : Ord xs L) (hl : xs.length ≤ 1073741822) (h0 : ∀ x ∈ xs, 0 ≤ x) (hlen : (ordMarks xs L).length = len) :
    Calls Try.prog 95 #[.slice a xs.length cap, .slice am len cm] w fun e w' => ∃ g, e = .returned (.slice (some ⟨g, 0, none⟩) xs.length xs.length) ∧ w.heap.size ≤ g ∧ Own w' g L ∧ Below w.heap.size w w' := by
  subst hlen
  have HOr := Hid.mk' hO
  have H0 := Hid.mk' h0
  have HBL := Hid.mk' (buckets_rd_length xs)
  obtain ⟨hsz, hby⟩ := kinds_string xs
  have HST := Hid.mk' (And.intro hsz hby)
  have hk := kinds_le xs
  clear hO h0 hsz hby
  go_enter Try.func95, Try.ntmps95
  go_wp2_with fail
  refine (textsKinds_any a cap xs _ hr (by omega)).mono ?_
  rintro e w1 ⟨rfl, hb1⟩
  generalize strOfNums (kindsL xs) = s at HST
  have hr1 := hr.below hb1
  go_wp2_with fail
  refine (textsDense_any a cap xs _ hr1 (by omega) H0.out).mono ?_
  rintro e w2 ⟨gd, hgd, rfl, hod, hb2⟩
  have hr2 := hr1.below hb2
  have hltd := hod.lt
  have hb02 := hb1.trans (hb2.mono hb1.size)
  go_wp2_with fail
  refine (textsBuckets_any a cap xs _ hr2 (by omega) H0.out).mono ?_
  rintro e w3 ⟨gs, hgs, rfl, hos, hb3⟩
  rw [HBL.out]
  have hb03 := hb02.trans (hb3.mono hb02.size)
  have hs3 := hb03.size
  have hod3 := hod.below hb3 hltd
  have hm3 := hm.below hb03
  have HDF := Hid.mk' (fun o => drawFalling_any s (some ⟨gd, 0, none⟩) gs xs.length am cm xs L (w3.alloc o) HOr.out (hod3.alloc o).rd (hos.alloc o).rd (hm3.below ((Below.refl _ _).alloc (Nat.le_refl _) _)) hl HST.out.1 HST.out.2)
  have HB3 := Hid.mk' (And.intro hod3 (And.intro hos hb03))
  clear hr1 hr2 hb1 hb2 hb3 hod hod3 hos hm3 hb03 hb02 hr hm
  go_wp2_with fail
  refine (HDF.out _).mono ?_
  rintro e w4 ⟨gf, fa, rfl, hgf, hof, hfl, hfa, hb4⟩
  have HFA := Hid.mk' (And.intro hfl hfa)
  have hsz : ∀ o, (w3.alloc o).heap.size = w3.heap.size + 1 := fun o => by simp
  rw [hsz] at hgf hb4
  have hv4 := OwnV.below (owned_alloc w3 _ _) hb4 (Nat.lt_succ_self _)
  have hb34 := ((Below.refl w3.heap.size w3).alloc (Nat.le_refl _) _).trans (hb4.mono (Nat.le_succ _))
  have hf0 := hv4.cell (i := 0) (by simp)
  have hf1 := hv4.cell (i := 1) (by simp)
  have hf2 := hv4.cell (i := 2) (by simp)
  simp only [List.getElem_cons_zero, List.getElem_cons_succ] at hf0 hf1 hf2
  have hod4 := (HB3.out.1.below hb34 HB3.out.1.lt).rd
  have hos4 := (HB3.out.2.1.below hb34 HB3.out.2.1.lt).rd
  have hof4 := hof.rd
  have hs4 := hb34.size
  have HB4 := Hid.mk' (HB3.out.2.2.trans (hb34.mono hs3))
  clear hfl hfa hv4 hb4 hb34 hof HDF
  go_wp2_with fail
  refine (drawRising_any s _ gs _ _ _ xs L fa _ HOr.out hod4 hos4 hof4 hl HST.out.1 HST.out.2 HFA.out.1 HFA.out.2).mono ?_
  rintro e w5 ⟨g, rfl, hg, ho, hb5⟩
  go_wp2
  go_ret
  exact ⟨g, rfl, by omega, ho, HB4.out.trans (hb5.mono HB4.out.size)⟩

end Go.Proofs.Ytpioolbcilfijaa
