/-
  Draw2: P8, P13: the walks of the program's drawFalling.
-/
import Derived.Test.YtpioolbcilfijaaDraw
namespace Go.Proofs.Ytpioolbcilfijaa
open Go.RowKit

theorem layMarks_any (s : ByteArray) (ad : Option Addr) (gs cd : Nat) (am : Option Addr) (cm : Nat) (xs L : List Int) (w : World) (hO : Ord xs L) (hd : Rd w ad (dense xs)) (hs : Rd w (some ⟨gs, 0, none⟩) (buckets xs)) (hm : Rd w am (ordMarks xs L)) (hl : xs.length ≤ 1073741822) (hk : kinds xs ≤ 1073741822) :
    Calls Try.prog 100 #[.agg #[.string s, .slice ad xs.length cd, .slice (some ⟨gs, 0, none⟩) (kinds xs + 1) (kinds xs + 1)], .slice am (ordMarks xs L).length cm] w fun e w' => ∃ g arr ends, e = .returned (.slice (some ⟨g, 0, none⟩) xs.length xs.length) ∧ w.heap.size ≤ g ∧ Own w' g arr ∧ Lay xs L 0 arr ends ∧ Below w.heap.size w w' := by
  by_cases hk0 : kinds xs = 0
  · obtain rfl := kinds_zero hk0
    obtain rfl := ord_nil hO
    refine (layMarks_nil s ad gs cd am cm w).mono ?_
    rintro e w' ⟨g, rfl, hg, ho, hb⟩
    exact ⟨g, [], _, rfl, hg, ho, Lay.start hO, hb⟩
  · exact layMarks_some s ad gs cd am cm xs L w hO hd hs hm hl hk hk0

theorem buckets_rd_length (xs : List Int) : (buckets xs).length = kinds xs + 1 := buckets_length xs

set_option maxHeartbeats 3200000 in
set_option maxRecDepth 100000 in
theorem drawFalling_any (s : ByteArray) (ad : Option Addr) (gs cd : Nat) (am : Option Addr) (cm : Nat) (xs L : List Int) (w : World) (hO : Ord xs L) (hd : Rd w ad (dense xs)) (hs : Rd w (some ⟨gs, 0, none⟩) (buckets xs)) (hm : Rd w am (ordMarks xs L)) (hl : xs.length ≤ 1073741822) (hsz : s.size = xs.length) (hby : ∀ i (h : i < s.size), (s[i].toNat : Int) = kd xs i) :
    Calls Try.prog 98 #[.agg #[.string s, .slice ad xs.length cd, .slice (some ⟨gs, 0, none⟩) (kinds xs + 1) (kinds xs + 1)], .slice am (ordMarks xs L).length cm] w fun e w' => ∃ g fa, e = .returned (.slice (some ⟨g, 0, none⟩) xs.length xs.length) ∧ w.heap.size ≤ g ∧ Own w' g fa ∧ fa.length = xs.length ∧ (∀ p, p < xs.length → gt xs p = true → fa.getD (ps L p) 0 = (p : Int)) ∧ Below w.heap.size w w' := by
  have HOr := Hid.mk' hO
  have hk := kinds_le xs
  have HBL := Hid.mk' (buckets_rd_length xs)
  have HBY := Hid.mk' hby
  have hsl : xs.length ≤ s.size := by omega
  clear hsz hby hO
  have HLM := Hid.mk' (fun o => layMarks_any s ad gs cd am cm xs L (w.alloc o) HOr.out (hd.below ((Below.refl _ _).alloc (Nat.le_refl _) _)) (hs.below ((Below.refl _ _).alloc (Nat.le_refl _) _)) (hm.below ((Below.refl _ _).alloc (Nat.le_refl _) _)) hl (by omega))
  go_enter Try.func98, Try.ntmps98
  go_wp2_with fail
  refine (HLM.out _).mono ?_
  rintro e w1 ⟨gk, kn0, ends0, rfl, hgk, hok, hLay, hb1⟩
  have HLay := Hid.mk' hLay
  clear hLay
  have hsz : ∀ o, (w.alloc o).heap.size = w.heap.size + 1 := fun o => by simp
  rw [hsz] at hgk hb1
  have hv1 := OwnV.below (owned_alloc w _ _) hb1 (Nat.lt_succ_self _)
  have hb01 := ((Below.refl w.heap.size w).alloc (Nat.le_refl _) _).trans (hb1.mono (Nat.le_succ _))
  have hltk := hok.lt
  clear hb1 HLM
  go_wp2_with fail
  refine (allFree_any xs.length _ (by omega)).mono ?_
  rintro e w2 ⟨rfl, hof, hb2⟩
  have hv2 := hv1.below hb2 (by omega)
  have hok2 := hok.below hb2 hltk
  have hb02 := hb01.trans (hb2.mono hb01.size)
  have hltf := hof.lt
  have hf2 := hv2.cell (i := 2) (by simp)
  simp only [List.getElem_cons_zero, List.getElem_cons_succ] at hf2
  have hs2 := hs.below hb02
  clear hv1 hok hb01 hb2
  go_wp2_with fail
  refine (copyOf_any _ _ _ (buckets xs) _ hs2 (by rw [HBL.out]; omega) HBL.out).mono ?_
  rintro e w3 ⟨rfl, hoh, hb3⟩
  have HH := Hid.mk' (And.intro (hok2.below hb3 (by omega)) (And.intro (hof.below hb3 hltf) (And.intro hoh (And.intro (hv2.below hb3 (by omega)) (hb02.trans (hb3.mono hb02.size))))))
  clear hv2 hok2 hb02 hb3 hoh hof hs2 hf2 hs hm
  have n1 : gk ≠ w1.heap.size := by omega
  have n2 : w1.heap.size ≠ gk := by omega
  have n3 : gk ≠ w2.heap.size := by omega
  have n4 : w2.heap.size ≠ gk := by omega
  have n5 : w1.heap.size ≠ w2.heap.size := by omega
  have n6 : w2.heap.size ≠ w1.heap.size := by omega
  have n7 : gk ≠ w.heap.size := by omega
  have n8 : w1.heap.size ≠ w.heap.size := by omega
  have n9 : w2.heap.size ≠ w.heap.size := by omega
  have n7' : w.heap.size ≠ gk := by omega
  have n8' : w.heap.size ≠ w1.heap.size := by omega
  have n9' : w.heap.size ≠ w2.heap.size := by omega
  go_wp2
  go_loopw [8] (fun i wr => ∃ (t : Nat) (kn fa hs : List Int), t ≤ xs.length + 1 ∧ i = .int .i64 ((t : Int) - 1) ∧ Hid (Fall xs L t kn fa hs) ∧ Hid (Own wr gk kn) ∧ Hid (Own wr w1.heap.size fa) ∧ Hid (Own wr w2.heap.size hs) ∧ Hid (OwnV wr w.heap.size 83 [.string s, .slice ad xs.length cd, .slice (some ⟨gs, 0, none⟩) (kinds xs + 1) (kinds xs + 1)]) ∧ Hid (Below w.heap.size w wr)) (fun i _ => xs.length + 1 - (intOf i + 1).toNat)
  case atStart => exact ⟨0, kn0, _, _, Nat.zero_le _, rfl, Fall.start HOr.out HLay.out, HH.out.1, HH.out.2.1, HH.out.2.2.1, HH.out.2.2.2.1, HH.out.2.2.2.2⟩
  case round =>
    clear HH
    obtain ⟨t, kn, fa, hs, ht, rfl, HF, H1, H2, H3, HV, HB⟩ := hrel
    cases t with
    | zero =>
      rw [show ((0 : Nat) : Int) - 1 = -1 from rfl]
      by_cases hn : xs.length = 0
      · have HN := Hid.mk' (HF.out.none HOr.out hn)
        have hn0 : ((xs.length : Nat) : Int) = 0 := by omega
        have hlt : (-1 : Int) < (xs.length : Int) := by omega
        clear hn
        go_wp2
        go_roundw
        case rel => exact ⟨1, kn, fa, hs, by omega, by go_num, HN, H1, H2, H3, HV, HB⟩
        case measure => simp [intOf]
      · obtain ⟨p, hp⟩ : ∃ p, p + 1 = xs.length := ⟨xs.length - 1, by omega⟩
        have hpx : p < xs.length := by omega
        have hg : gt xs p = true := gt_last (by omega)
        obtain ⟨hD, z, hz, hzx, hzk, hzf, hFl⟩ := HF.out.first HOr.out hp
        have hpe : ((xs.length : Nat) : Int) - 1 = (p : Int) := by omega
        have HP := Hid.mk' hp
        have HFl := Hid.mk' hFl
        obtain ⟨D, hDD⟩ : ∃ D, dN xs p = D := ⟨_, rfl⟩
        have hDk : D < kinds xs := by rw [← hDD]; exact dN_lt hpx
        rw [Hid, hDD] at HFl
        rw [hDD] at hD hz
        have hrd := hd.below HB.out
        have hpd : p < (dense xs).length := by rw [dense_length]; exact hpx
        obtain ⟨bd, od, rfl, hbd, hcd0⟩ := hd.at hpd
        have hcd := hrd.cell hpd
        rw [dN_at, hDD] at hcd
        have hch := H3.out.cell hD
        rw [hz] at hch
        have hfh := H3.out.frozen D
        obtain ⟨u, hca⟩ : ∃ u, wr.cell? ⟨gk, z, none⟩ = some u := ⟨_, H1.out.cell hzk⟩
        have hfa := H1.out.frozen z
        obtain ⟨u', hcb⟩ : ∃ u, wr.cell? ⟨w1.heap.size, z, none⟩ = some u := ⟨_, H2.out.cell hzf⟩
        have hfb := H2.out.frozen z
        have hf0 := HV.out.cell (i := 0) (by simp)
        have hf1 := HV.out.cell (i := 1) (by simp)
        simp only [List.getElem_cons_zero, List.getElem_cons_succ] at hf0 hf1
        have hps : p < s.size := by omega
        have hby := HBY.out p hps
        have hbe : ((s[p].toNat : Int) == 76) = true := by rw [hby, (kd_L_iff xs p).2 hg]; rfl

        clear hcd0 hrd hDD hz hFl hD hzk hzf hpd hby hg hn
        go_wp2
        go_roundw
        case rel => exact ⟨1, _, _, _, by omega, by go_num, HFl, ((H1.out.set z _).other n2 _).other n4 _, ((H2.out.other n1 _).set z _).other n6 _, ((H3.out.other n3 _).other n5 _).set D _, ((HV.out.other n7 _).other n8 _).other n9 _, ((HB.out.setCell (by show w.heap.size ≤ gk; omega) _).setCell (by show w.heap.size ≤ w1.heap.size; omega) _).setCell (by show w.heap.size ≤ w2.heap.size; omega) _⟩
        case measure => simp [intOf]
    | succ i =>
      rw [show ((i + 1 : Nat) : Int) - 1 = (i : Int) by omega]
      by_cases hi : i < xs.length
      · obtain ⟨r1, r2⟩ := HF.out.range HOr.out hi
        have hik : i < kn.length := by rw [HF.out.len]; exact hi
        have hck := H1.out.cell hik
        by_cases hv0 : kn.getD i 0 ≤ 0
        · have HS := Hid.mk' (HF.out.skip HOr.out (fun p _ hp => by omega))
          generalize kn.getD i 0 = v at r1 r2 hck hv0
          go_wp2
          go_roundw
          case rel => exact ⟨i + 2, kn, fa, hs, by omega, by go_num, HS, H1, H2, H3, HV, HB⟩
          case measure => simp [intOf]; omega
        · obtain ⟨p, hp⟩ : ∃ p : Nat, kn.getD i 0 = ((p + 1 : Nat) : Int) := ⟨(kn.getD i 0 - 1).toNat, by omega⟩
          rw [hp] at hck r1 r2
          have hpx1 : p + 1 < xs.length := by omega
          have hpx : p < xs.length := by omega
          have hpe : (((p + 1 : Nat) : Int)) - 1 = (p : Int) := by omega
          cases hg : gt xs p with
          | true =>
            obtain ⟨hD, z, hz, hzx, hzk, hzf, hFl⟩ := HF.out.draw HOr.out hi hpx1 hp hg
            have HFl := Hid.mk' hFl
            obtain ⟨D, hDD⟩ : ∃ D, dN xs p = D := ⟨_, rfl⟩
            have hDk : D < kinds xs := by rw [← hDD]; exact dN_lt hpx
            rw [Hid, hDD] at HFl
            rw [hDD] at hD hz
            have hrd := hd.below HB.out
            have hpd : p < (dense xs).length := by rw [dense_length]; exact hpx
            obtain ⟨bd, od, rfl, hbd, hcd0⟩ := hd.at hpd
            have hcd := hrd.cell hpd
            rw [dN_at, hDD] at hcd
            have hch := H3.out.cell hD
            rw [hz] at hch
            have hfh := H3.out.frozen D
            obtain ⟨u, hca⟩ : ∃ u, wr.cell? ⟨gk, z, none⟩ = some u := ⟨_, H1.out.cell hzk⟩
            have hfa := H1.out.frozen z
            obtain ⟨u', hcb⟩ : ∃ u, wr.cell? ⟨w1.heap.size, z, none⟩ = some u := ⟨_, H2.out.cell hzf⟩
            have hfb := H2.out.frozen z
            have hf0 := HV.out.cell (i := 0) (by simp)
            have hf1 := HV.out.cell (i := 1) (by simp)
            simp only [List.getElem_cons_zero, List.getElem_cons_succ] at hf0 hf1
            have hps : p < s.size := by omega
            have hby := HBY.out p hps
            have hbe : ((s[p].toNat : Int) == 76) = true := by rw [hby, (kd_L_iff xs p).2 hg]; rfl

            clear hcd0 hrd hDD hz hFl hD hzk hzf hpd hby hg hp hv0
            go_wp2
            go_roundw
            case rel => exact ⟨i + 2, _, _, _, by omega, by go_num, HFl, ((H1.out.set z _).other n2 _).other n4 _, ((H2.out.other n1 _).set z _).other n6 _, ((H3.out.other n3 _).other n5 _).set D _, ((HV.out.other n7 _).other n8 _).other n9 _, ((HB.out.setCell (by show w.heap.size ≤ gk; omega) _).setCell (by show w.heap.size ≤ w1.heap.size; omega) _).setCell (by show w.heap.size ≤ w2.heap.size; omega) _⟩
            case measure => simp [intOf]; omega
          | false =>
            have HS := Hid.mk' (HF.out.skip HOr.out (fun q _ hq => by rw [hp] at hq; obtain rfl : q = p := by omega
                                                                      exact hg))
            have hf0 := HV.out.cell (i := 0) (by simp)
            simp only [List.getElem_cons_zero] at hf0
            have hps : p < s.size := by omega
            have hby := HBY.out p hps
            have hbe : ((s[p].toNat : Int) == 76) = false := by rw [hby]; simp [kd_L_iff, hg]
            clear hp hv0 hby hg
            go_wp2
            go_roundw
            case rel => exact ⟨i + 2, kn, fa, hs, by omega, by go_num, HS, H1, H2, H3, HV, HB⟩
            case measure => simp [intOf]; omega
      · have HD := Hid.mk' (HF.out.done HOr.out (by omega))
        go_wp2
        go_ret
        exact ⟨_, fa, rfl, by omega, H2.out, HD.out.1, HD.out.2, HB.out⟩

end Go.Proofs.Ytpioolbcilfijaa
