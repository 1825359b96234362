/-
  Sort: P8, P10: the walk of the program's Sort (by doubling).
-/
import Derived.Test.YtdhehffdddbmbaaDoubling
namespace Go.Proofs.Ytdhehffdddbmbaa
open Go.RowKit

theorem owned_alloc (w : World) (t : TypeId) (cs : List Value) : OwnV (w.alloc (.cells cs.toArray t)) w.heap.size t cs := by
  show (w.heap.push _)[w.heap.size]? = _
  simp

set_option maxHeartbeats 1600000 in
set_option maxRecDepth 100000 in
theorem ranksSort_any (a : Option Addr) (cap : Nat) (xs : List Int) (w : World) (hr : Rd w a xs) (hl : xs.length ≤ 96) (hcap : xs.length ≤ cap) :
    Calls Try.prog 59 #[.slice a xs.length cap] w fun e w' => ∃ g L, Ord xs L ∧ e = .returned (.agg #[.slice (some ⟨g, 0, none⟩) xs.length xs.length, .int .i64 (rounds xs)]) ∧ w.heap.size ≤ g ∧ Own w' g L ∧ Below w.heap.size w w' := by
  obtain ⟨L, hL⟩ := ord_ex xs
  have HL := Hid.mk' hL
  clear hL
  have H1 : Hid (∀ o, Calls Try.prog 55 #[.slice a xs.length cap, .int .i64 1] (w.alloc o) fun e w' => e = .returned (.slice (some ⟨(w.alloc o).heap.size, 0, none⟩) xs.length xs.length) ∧ Own w' (w.alloc o).heap.size (ranks xs 1) ∧ Below (w.alloc o).heap.size (w.alloc o) w') :=
    fun o => byFirst_any a cap xs 1 (w.alloc o) (hr.below ((Below.refl _ _).alloc (Nat.le_refl _) _)) (by omega) hcap
  go_enter Try.func59, Try.ntmps59
  go_wp2_with fail
  refine (H1.out _).mono ?_
  rintro e w1 ⟨rfl, ho1, hb1⟩
  have hsz : ∀ o, (w.alloc o).heap.size = w.heap.size + 1 := fun o => by simp
  rw [hsz] at ho1 hb1
  have HV := Hid.mk' (OwnV.below (owned_alloc w _ _) hb1 (Nat.lt_succ_self _))
  have hb1 := ((Below.refl w.heap.size w).alloc (Nat.le_refl _) _).trans (hb1.mono (Nat.le_succ _))
  go_wp2
  go_loopw [3, 4, 5] (fun rs r h wr => ∃ n p g : Nat, n ≤ 7 ∧ rs = .slice (some ⟨g, 0, none⟩) xs.length xs.length ∧ r = .int .i64 n ∧ h = .int .i64 p ∧ 1 ≤ p ∧ p ≤ 192 ∧ w.heap.size < g ∧ Hid (p = 2 ^ n) ∧ Hid (rounds xs = roundsFrom xs (8 - n) n) ∧ Hid (Own wr g (ranks xs p)) ∧ Hid (OwnV wr w.heap.size 58 [.slice none 0 0, .int .i64 0]) ∧ Hid (Below w.heap.size w wr)) (fun _ _ h _ => 256 - (intOf h).toNat)
  case atStart => exact ⟨0, 1, _, by omega, rfl, rfl, rfl, by omega, by omega, Nat.lt_succ_self _, rfl, rfl, ho1, HV, hb1⟩
  case round =>
    clear ho1 hb1 HV
    obtain ⟨n, p, g, hn, rfl, rfl, rfl, hp1, hp, hg, HP, HR, HO, HV, HB⟩ := hrel
    have hgb := HV.out.lt
    have hs := rounds_step xs (n := n) (by omega)
    rw [← HP.out] at hs
    have HS := Hid.mk' hs
    clear hs
    have hrd := HO.out.rd
    have hgl := HO.out.lt
    by_cases hlt : p < xs.length
    · have hn7 := pow_small HP.out (by omega)
      cases hd : diff (ranks xs p) with
      | true =>
        have HQ := Hid.mk' (HR.out.trans (HS.out.trans (if_pos hd)))
        have HE := Hid.mk' (ranks_poss HL.out (diff_nodup hd))
        have HD := Hid.mk' hd
        clear hd
        go_wp2_with fail
        refine (allDifferent_any _ _ _ (ranks xs p) _ hrd (by rw [ranks_length]; omega) (ranks_length xs p) true HD.out).mono ?_
        rintro e w2 ⟨rfl, q, rfl⟩
        go_wp2_with fail
        refine (placesByRank_any _ _ xs.length (ranks xs p) L _ (HO.out.drewN q).rd (by omega) (by rw [HE.out]; exact Plc.poss HL.out) (OrdTo.length HL.out) (by rw [HE.out]; exact ord_poss HL.out)).mono ?_
        rintro e w3 ⟨rfl, ho3, hb3⟩
        have hv3 := (HV.out.drewN q).below hb3 (by simpa using hgb)
        have hv0 := hv3.cell (i := 0) (by simp)
        have hv1 := hv3.cell (i := 1) (by simp)
        have hf0 := hv3.frozen 0
        have hf1 := hv3.frozen 1
        clear hv3
        simp only [List.getElem_cons_zero, List.getElem_cons_succ] at hv0 hv1
        go_wp2
        refine bodyPost_ret (v := .agg #[.slice (some ⟨wr.heap.size, 0, none⟩) xs.length xs.length, .int .i64 n]) (by simp [results, Try.results59, go_sem, hv0, hv1]) rfl ⟨wr.heap.size, L, HL.out, by rw [HQ.out], by omega, (ho3.other (by simp; omega) _).other (by simp; omega) _, ?_⟩
        exact (((below_drewN HB.out q).trans (hb3.mono HB.out.size)).setCell (Nat.le_refl _) _).setCell (Nat.le_refl _) _
      | false =>
        have HQ := Hid.mk' (HR.out.trans (HS.out.trans (if_neg (by rw [hd]; simp))))
        have HD := Hid.mk' hd
        clear hd
        go_wp2_with fail
        refine (allDifferent_any _ _ _ (ranks xs p) _ hrd (by rw [ranks_length]; omega) (ranks_length xs p) false HD.out).mono ?_
        rintro e w2 ⟨rfl, q, rfl⟩
        go_wp2_with fail
        refine (doubled_any _ _ xs p _ (HO.out.drewN q).rd (by omega) (by omega) (by omega)).mono ?_
        rintro e w3 ⟨rfl, ho3, hb3⟩
        go_wp2
        go_roundw
        case rel => exact ⟨n + 1, 2 * p, _, by omega, rfl, by go_num, by go_num, by omega, by omega, hgb, by rw [Hid, Nat.pow_succ, ← HP.out]; omega, HQ, by rw [Nat.two_mul]; exact ho3, (HV.out.drewN q).below hb3 (by simpa using hgb), (below_drewN HB.out q).trans (hb3.mono HB.out.size)⟩
        case measure => simp [intOf]; omega
    · have hd := diff_ranks (xs := xs) (h := p) (by omega)
      have HQ := Hid.mk' (HR.out.trans (HS.out.trans (if_pos hd)))
      have HE := Hid.mk' (ranks_poss HL.out (diff_nodup hd))
      clear hd
      go_wp2_with fail
      refine (placesByRank_any _ _ xs.length (ranks xs p) L _ hrd (by omega) (by rw [HE.out]; exact Plc.poss HL.out) (OrdTo.length HL.out) (by rw [HE.out]; exact ord_poss HL.out)).mono ?_
      rintro e w3 ⟨rfl, ho3, hb3⟩
      have hv3 := HV.out.below hb3 hgb
      have hv0 := hv3.cell (i := 0) (by simp)
      have hv1 := hv3.cell (i := 1) (by simp)
      have hf0 := hv3.frozen 0
      have hf1 := hv3.frozen 1
      clear hv3
      simp only [List.getElem_cons_zero, List.getElem_cons_succ] at hv0 hv1
      go_wp2
      refine bodyPost_ret (v := .agg #[.slice (some ⟨wr.heap.size, 0, none⟩) xs.length xs.length, .int .i64 n]) (by simp [results, Try.results59, go_sem, hv0, hv1]) rfl ⟨wr.heap.size, L, HL.out, by rw [HQ.out], by omega, (ho3.other (by simp; omega) _).other (by simp; omega) _, ?_⟩
      exact ((HB.out.trans (hb3.mono HB.out.size)).setCell (Nat.le_refl _) _).setCell (Nat.le_refl _) _

end Go.Proofs.Ytdhehffdddbmbaa
