/-
  RefNames2: the walks of the document's own Names, Levels, Turns.
-/
import Derived.Test.YtdhehffdddbmbaaRefNames
import Derived.Test.YtdhehffdddbmbaaMBase
namespace Go.Proofs.Ytdhehffdddbmbaa
open Go.RowKit

/-- A row of slices: the pieces of the marks. -/
def LL (w : World) (g : Nat) (xs : List Int) (K : Nat) : Prop := g < w.heap.size ∧ ∀ i, i < K → ∃ A c, w.cell? ⟨g, i, none⟩ = some (.slice A (pc xs i).length c) ∧ Rd w A (pc xs i)
theorem LL.below {w w' : World} {g : Nat} {xs : List Int} {K : Nat} (h : LL w g xs K) (hb : Below w.heap.size w w') : LL w' g xs K :=
  ⟨Nat.lt_of_lt_of_le h.1 hb.size, fun i hi => by obtain ⟨A, c, h1, h2⟩ := h.2 i hi; exact ⟨A, c, (hb.cell (p := ⟨g, i, none⟩) h.1).trans h1, h2.below hb⟩⟩
theorem LL.of {w : World} {B : Nat} {r : Value} {vs : List Value} {xs : List Int} {K : Nat} (h : w.ownsRow B 22 1 r K vs) (hp : PcAll w vs xs K r.ownBlock) (hK : 0 < K) : ∃ g cap, r = .slice (some ⟨g, 0, none⟩) K cap ∧ LL w g xs K := by
  rcases h.2 with ⟨_, h0⟩ | ⟨g, c, cur, rfl, _, hg, _⟩
  · omega
  · refine ⟨g, c, rfl, (Array.getElem?_eq_some_iff.1 hg).1, fun i hi => ?_⟩
    obtain ⟨A, d, h1, h2⟩ := hp.2 i hi
    have := h.cells (g := g) rfl i _ h1
    rw [show (⟨g, 0, none⟩ : Addr).add i = ⟨g, i, none⟩ by unfold Addr.add; split <;> simp_all] at this
    exact ⟨A, d, this, h2.1⟩

theorem pc_le (xs : List Int) (i : Nat) : (pc xs i).length ≤ xs.length + 1 := by
  unfold pc piece
  generalize (if i + 1 < (marks xs).length then ((marks xs).getD (i + 1) 0).toNat else xs.length) = q
  rw [List.length_append, pieceTo_length]
  split <;> simp <;> omega

theorem nameCnt_yes {xs : List Int} {i j : Nat} (h : lt (pc xs j) (pc xs i) = true) (h2 : hadTo xs j j = false) : nameCnt xs i (j + 1) = nameCnt xs i j + 1 := by
  rw [nameCnt_succ, h, h2]; rfl
theorem nameCnt_no {xs : List Int} {i j : Nat} (h : lt (pc xs j) (pc xs i) = false ∨ hadTo xs j j = true) : nameCnt xs i (j + 1) = nameCnt xs i j := by
  rw [nameCnt_succ]
  rcases h with h | h <;> rw [h] <;> simp
theorem nameCnt_le (xs : List Int) (i j : Nat) : nameCnt xs i j ≤ j := countP_range_le _ _

theorem same_lens2 (a a' : Option Addr) (cap cap' : Nat) (xs ys : List Int) (w : World) (hr : Rd w a xs) (hr' : Rd w a' ys) (hl : xs.length ≤ 1073741824) (hl' : ys.length ≤ 1073741824) (v : Bool) (hv : (xs == ys) = v) :
    Calls Try.prog 23 #[.slice a xs.length cap, .slice a' ys.length cap'] w fun e w' => e = .returned (.bool v) ∧ ∃ q, w' = w.drewN q := by
  subst hv; exact same_any a a' cap cap' xs ys w hr hr' (by unfold maxLen; omega) (by unfold maxLen; omega)

set_option maxHeartbeats 3200000 in
set_option maxRecDepth 100000 in
theorem refNames_any (a : Option Addr) (cap : Nat) (xs : List Int) (w : World) (hr : Rd w a xs) (hl : xs.length ≤ 1073741823) (hcap : xs.length ≤ cap) (hcap' : cap ≤ 9223372036854775807) :
    Calls Try.prog 40 #[.slice a xs.length cap] w fun e w' => ∃ g, w.heap.size ≤ g ∧ e = .returned (.slice (some ⟨g, 0, none⟩) (names xs).length (names xs).length) ∧ Own w' g (names xs) ∧ Below w.heap.size w w' := by
  obtain ⟨i0, hi, hz0, hz1, hz2⟩ := info_parts Try.info3
  have hmk := marks_length_le xs
  have HNL := Hid.mk' (names_length xs)
  go_enter Try.func40, Try.ntmps40
  go_wp2_with fail
  refine (pieces_any _ _ xs _ hr hl hcap hcap').mono ?_
  rintro e w1 ⟨r, vs, rfl, hown, hP, hb1⟩
  obtain ⟨A, cL, rfl⟩ : ∃ A c, r = .slice A (marks xs).length c := by
    rcases hown.2 with ⟨rfl, h0⟩ | ⟨g, c, cur, rfl, _⟩
    · rw [h0]; exact ⟨none, 0, rfl⟩
    · exact ⟨_, c, rfl⟩
  have HLL : Hid (0 < (marks xs).length → ∃ g, A = some ⟨g, 0, none⟩ ∧ LL w1 g xs (marks xs).length) := fun hK => by
    obtain ⟨g, c, he, h⟩ := LL.of hown hP hK
    cases he
    exact ⟨g, rfl, h⟩
  clear hown hP
  go_wp2_with (at_make; refine wpList_make_full _ rfl _ _ 22 rfl w1.heap.size 3 i0 (.int .i64 0) 1 Try.underlying22 hi hz0 hz1 _ _ _ _ (marks xs).length rfl rfl (by omega) (by omega) ?b2 ?b3 (Nat.le_refl _) ?_)
  case b2 => rw [hz2]; omega
  case b3 => unfold maxLen; omega
  intro w2 hown0 hgrow0
  obtain ⟨ho, hb2, hs2⟩ := made_row hown0 hgrow0
  clear hown0 hgrow0
  go_wp2
  go_loopw [5] (fun i wr => ∃ (n : Nat) (ds : List Int), n ≤ (marks xs).length ∧ i = .int .i64 n ∧ Hid (Cnt (fun i => (nameCnt xs i (marks xs).length : Int)) (marks xs).length ds n 0) ∧ Hid (Own wr w1.heap.size ds) ∧ Hid (Below w1.heap.size w1 wr)) (fun i _ => (marks xs).length - (intOf i).toNat)
  case atStart => exact ⟨0, _, Nat.zero_le _, rfl, Cnt.start _ _, ho, hb2⟩
  case round =>
    clear ho hb2 hs2
    obtain ⟨n, ds, hn, rfl, HC, HO, HB⟩ := hrel
    by_cases hlt : n < (marks xs).length
    · obtain ⟨g, rfl, hLL⟩ := HLL.out (by omega)
      have HL := Hid.mk' hLL
      clear hLL HLL
      go_wp2
      go_loopw [6] (fun j wr => ∃ (m : Nat) (ds : List Int), m ≤ (marks xs).length ∧ j = .int .i64 m ∧ Hid (Cnt (fun i => (nameCnt xs i (marks xs).length : Int)) (marks xs).length ds n (nameCnt xs n m)) ∧ Hid (Own wr w1.heap.size ds) ∧ Hid (Below w1.heap.size w1 wr)) (fun j _ => (marks xs).length - (intOf j).toNat)
      case atStart => exact ⟨0, ds, Nat.zero_le _, rfl, HC, HO, HB⟩
      case round =>
        clear HC HO HB ds
        obtain ⟨m, ds, hm, rfl, HC, HO, HB⟩ := hrel
        by_cases hml : m < (marks xs).length
        · have hLr := HL.out.below HB.out
          obtain ⟨A1, c1, hcm, hrm⟩ := hLr.2 m hml
          obtain ⟨A2, c2, hcn, hrn⟩ := hLr.2 n hlt
          have hpm := pc_le xs m
          have hpn := pc_le xs n
          have hrl := nameCnt_le xs n m
          obtain ⟨v, hv⟩ : ∃ v, lt (pc xs m) (pc xs n) = v := ⟨_, rfl⟩
          have HI := Hid.mk' (fun q' => less_lens A1 A2 c1 c2 (pc xs m) (pc xs n) (wr.drewN q') hrm hrn (by omega) v hv)
          have HV := Hid.mk' hv
          clear hv hLr
          go_wp2
          go_quiet ((go_at_call 52; exact Calls.quiet_of (HI.out _)))
          go_wp2
          go_loopw [8, 9] (fun had k wr => ∃ (kk : Nat) (H : Bool), kk ≤ m ∧ k = .int .i64 kk ∧ had = .bool H ∧ Hid (hadTo xs m kk = H) ∧ Hid (Own wr w1.heap.size ds) ∧ Hid (Below w1.heap.size w1 wr)) (fun _ k _ => m - (intOf k).toNat)
          case atStart => exact ⟨0, false, Nat.zero_le _, rfl, rfl, rfl, HO.out.drewN _, below_drewN HB.out _⟩
          case round =>
            clear HO HB HI hcm hrm hcn hrn
            obtain ⟨kk, H, hkk, rfl, rfl, HH, HO, HB⟩ := hrel
            by_cases hkm : kk < m
            · have hLr := HL.out.below HB.out
              obtain ⟨A3, c3, hck, hrk⟩ := hLr.2 kk (by omega)
              obtain ⟨A4, c4, hcm, hrm⟩ := hLr.2 m hml
              have hpk := pc_le xs kk
              have hkM : kk < (marks xs).length := by omega
              obtain ⟨z, hz⟩ : ∃ z, (pc xs kk == pc xs m) = z := ⟨_, rfl⟩
              have HI := Hid.mk' (fun q' => same_lens2 A3 A4 c3 c4 (pc xs kk) (pc xs m) (wr.drewN q') hrk hrm (by omega) (by omega) z hz)
              have HS := Hid.mk' (hadTo_succ xs m kk)
              have HZ := Hid.mk' hz
              clear hz hLr
              cases H with
              | true =>
                go_wp2
                go_quiet ((go_at_call 23; exact Calls.quiet_of (HI.out _)))
                go_wp2
                go_roundw
                case rel => exact ⟨kk + 1, true, by omega, by go_num, rfl, by rw [Hid, HS.out, HH.out]; rfl, HO.out.drewN _, below_drewN HB.out _⟩
                case measure => simp [intOf]; omega
              | false =>
                go_wp2
                go_quiet ((go_at_call 23; exact Calls.quiet_of (HI.out _)))
                go_wp2
                go_roundw
                case rel => exact ⟨kk + 1, z, by omega, by go_num, rfl, by rw [Hid, HS.out, HH.out, HZ.out]; rfl, HO.out.drewN _, below_drewN HB.out _⟩
                case measure => simp [intOf]; omega
            · obtain rfl : kk = m := by omega
              cases v with
              | false =>
                have HN := Hid.mk' (nameCnt_no (xs := xs) (i := n) (j := kk) (.inl HV.out))
                go_wp2
                go_roundw
                case rel => exact ⟨kk + 1, ds, by omega, by go_num, by rw [HN.out]; exact HC, HO, HB⟩
                case measure => simp [intOf]; omega
              | true =>
                cases H with
                | true =>
                  have HN := Hid.mk' (nameCnt_no (xs := xs) (i := n) (j := kk) (.inr HH.out))
                  go_wp2
                  go_roundw
                  case rel => exact ⟨kk + 1, ds, by omega, by go_num, by rw [HN.out]; exact HC, HO, HB⟩
                  case measure => simp [intOf]; omega
                | false =>
                  have HN := Hid.mk' (nameCnt_yes (xs := xs) (i := n) (j := kk) HV.out HH.out)
                  have hcell := HO.out.cell (i := n) (by rw [HC.out.1]; exact hlt)
                  rw [HC.out.at hlt] at hcell
                  have hfz := HO.out.frozen n
                  go_wp2
                  go_roundw
                  case rel => exact ⟨kk + 1, ds.set n ((nameCnt xs n kk : Int) + 1), by omega, by go_num, by rw [HN.out]; exact HC.out.set _, HO.out.set n _, HB.out.setCell (Nat.le_refl _) _⟩
                  case measure => simp [intOf]; omega
        · obtain rfl : m = (marks xs).length := by omega
          have HN := Hid.mk' (HC.out.next rfl)
          go_wp2
          go_roundw
          case rel => exact ⟨n + 1, ds, by omega, by go_num, HN, HO, HB⟩
          case measure => simp [intOf]; omega
    · have HN := Hid.mk' (HC.out.done (by omega))
      go_wp2
      go_ret
      exact ⟨w1.heap.size, hb1.size, by rw [HNL.out]; rfl, by rw [show names xs = ds from HN.out.symm]; exact HO.out, hb1.trans (HB.out.mono hb1.size)⟩

/-- P13. -/
def levels (xs : List Int) : Nat := lev diff xs.length xs

theorem diff_own (g : Nat) (l : List Int) (w : World) (ho : Own w g l) (hl : l.length ≤ 1073741824) (v : Bool) (hv : diff l = v) :
    Calls Try.prog 97 #[.slice (some ⟨g, 0, none⟩) l.length l.length] w fun e w' => e = .returned (.bool v) ∧ ∃ q, w' = w.drewN q :=
  diff_len _ _ _ l w ho.rd hl (Nat.le_refl _) rfl v hv

set_option maxHeartbeats 1600000 in
set_option maxRecDepth 100000 in
theorem levels_any (a : Option Addr) (cap : Nat) (xs : List Int) (w : World) (hr : Rd w a xs) (hl : xs.length ≤ 1073741823) (hcap : xs.length ≤ cap) (hcap' : cap ≤ 9223372036854775807) :
    Calls Try.prog 78 #[.slice a xs.length cap] w fun e w' => e = .returned (.int .i64 (levels xs)) ∧ Below w.heap.size w w' := by
  go_enter Try.func78, Try.ntmps78
  go_wp2
  go_loopw [3, 4] (fun n tv wr => ∃ (c k : Nat) (ts : List Int) (A : Option Addr) (cp : Nat), n = .int .i64 c ∧ tv = .slice A ts.length cp ∧ c + ts.length ≤ xs.length ∧ ts.length ≤ k ∧ ts.length ≤ cp ∧ cp ≤ 9223372036854775807 ∧ Hid (levels xs = c + lev diff k ts) ∧ Hid (Rd wr A ts) ∧ Hid (Below w.heap.size w wr)) (fun _ tv _ => slLen tv)
  case atStart => exact ⟨0, xs.length, xs, a, cap, rfl, rfl, by omega, Nat.le_refl _, hcap, hcap', (Nat.zero_add _).symm, hr, Below.refl _ _⟩
  case round =>
    obtain ⟨c, k, ts, A, cp, rfl, rfl, hct, htk, htc, hcp, HL, HR, HB⟩ := hrel
    by_cases h0 : 0 < ts.length
    · cases k with
      | zero => omega
      | succ k =>
        have hsh := names_short h0
        go_wp2_with fail
        refine (refNames_any _ _ ts _ HR.out (by omega) htc hcp).mono ?_
        rintro e w1 ⟨g, hg, rfl, ho, hb1⟩
        have hb01 : Below w.heap.size w w1 := HB.out.trans (hb1.mono HB.out.size)
        cases hd : diff (names ts) with
        | true =>
          have HQ : Hid (levels xs = c) := by rw [Hid, HL.out, lev, if_neg (by omega), if_pos hd, Nat.add_zero]
          have HI := Hid.mk' (diff_own g (names ts) w1 ho (by omega) true hd)
          clear hd
          go_wp2_with fail
          refine HI.out.mono ?_
          rintro e w2 ⟨rfl, q, rfl⟩
          go_wp2
          go_ret
          exact ⟨ret_int (by rw [HQ.out]), below_drewN hb01 q⟩
        | false =>
          have HQ : Hid (levels xs = (c + 1) + lev diff k (names ts)) := by rw [Hid, HL.out, lev, if_neg (by omega), if_neg (by rw [hd]; simp)]; omega
          have HI := Hid.mk' (diff_own g (names ts) w1 ho (by omega) false hd)
          clear hd
          go_wp2_with fail
          refine HI.out.mono ?_
          rintro e w2 ⟨rfl, q, rfl⟩
          go_wp2
          go_roundw
          case rel => exact ⟨c + 1, k, names ts, _, _, by go_num, rfl, by omega, by omega, Nat.le_refl _, by omega, HQ, ho.rd.drewN q, below_drewN hb01 q⟩
          case measure => simp [slLen]; omega
    · have HQ : Hid (levels xs = c) := by
        rw [Hid, HL.out]
        cases k with
        | zero => rfl
        | succ k => rw [lev, if_pos (by omega), Nat.add_zero]
      have hts : ts.length = 0 := by omega
      go_wp2
      go_ret
      exact ⟨ret_int (by rw [HQ.out]), HB.out⟩

theorem isTurn_no1 {xs : List Int} {p : Nat} (h : kd xs p = 76) : isTurn xs p = false := by simp [isTurn, h]
theorem isTurn_no2 {xs : List Int} {p : Nat} (h : ¬ p + 1 < xs.length) : isTurn xs p = false := by simp [isTurn, h]
theorem isTurn_no3 {xs : List Int} {p : Nat} (h : ¬ kd xs (p + 1) = 76) : isTurn xs p = false := by simp [isTurn, h]
theorem isTurn_yes {xs : List Int} {p : Nat} (h : ¬ kd xs p = 76) (h2 : p + 1 < xs.length) (h3 : kd xs (p + 1) = 76) : isTurn xs p = true := by simp [isTurn, h, h2, h3]

set_option maxHeartbeats 1600000 in
set_option maxRecDepth 100000 in
theorem refTurns_any (a : Option Addr) (cap : Nat) (xs : List Int) (w : World) (hr : Rd w a xs) (hl : xs.length ≤ 1073741823) (hcap : xs.length ≤ cap) (hcap' : cap ≤ 9223372036854775807) :
    Calls Try.prog 42 #[.slice a xs.length cap] w fun e w' => ∃ r L, Ord xs L ∧ e = .returned r ∧ w'.ownsRow w.heap.size 3 1 r (turnsTo xs L xs.length).length ((turnsTo xs L xs.length).map (Value.int .i64)) ∧ Below w.heap.size w w' := by
  obtain ⟨i0, hi, hz0, hz1, hz2⟩ := info_parts Try.info3
  obtain ⟨hsz, hby⟩ := kinds_string xs
  go_enter Try.func42, Try.ntmps42
  go_wp2_with fail
  refine (refKinds_any _ _ xs _ hr (by omega) hcap hcap').mono ?_
  rintro e w1 ⟨rfl, hb1⟩
  generalize strOfNums (kindsL xs) = s at hsz hby ⊢
  have hr1 := hr.below hb1
  go_wp2_with fail
  refine (refOrder_any _ _ xs _ hr1 hl hcap).mono ?_
  rintro e w2 ⟨r, L, hO, rfl, hownL, hb2⟩
  obtain ⟨A, cL, rfl, hrL, hLn, hnc, hcm⟩ := owns_slice hownL
  have hb02 : Below w.heap.size w w2 := hb1.trans (hb2.mono hb1.size)
  have HSZ := Hid.mk' hsz
  have HBY := Hid.mk' hby
  have HLn := Hid.mk' hLn
  have HOr := Hid.mk' hO
  have hsl : s.size ≤ xs.length := by omega
  have hsl2 : xs.length ≤ s.size := by omega
  have hs02 := hb02.size
  clear hsz hby hLn hO hr1 hownL hb1 hb2
  go_wp2
  go_loopw [5, 6] (fun out i wr => ∃ n : Nat, n ≤ xs.length ∧ i = .int .i64 n ∧ wr.ownsRow w2.heap.size 3 1 out (turnsTo xs L n).length ((turnsTo xs L n).map (Value.int .i64)) ∧ Below w2.heap.size w2 wr) (fun _ i _ => xs.length - (intOf i).toNat)
  case atStart => exact ⟨0, Nat.zero_le _, rfl, World.ownsRow_nil _ _ _ _, Below.refl _ _⟩
  case round =>
    obtain ⟨n, hn, rfl, hown, hbr⟩ := hrel
    have hsz := hbr.size
    have hle := turnsTo_length_le xs L n
    by_cases hlt : n < xs.length
    · have hnL : n < L.length := by have := HLn.out; omega
      have hat := OrdTo.at HOr.out hlt
      have hro := hrL.below hbr
      obtain ⟨b, off, rfl, hb, hc⟩ := hro.at hnL
      have hc1 := hc n hnL
      obtain ⟨p, hp⟩ : ∃ p : Nat, L.getD n 0 = p := ⟨(L.getD n 0).toNat, by omega⟩
      rw [hp] at hc1
      have hpx : p < xs.length := by omega
      have hps : p < s.size := by omega
      have hLp : L[n] = (p : Int) := by rw [← hp]; simp [List.getD, hnL]
      have hsucc := turnsTo_succ (xs := xs) hnL
      rw [hLp, Int.toNat_natCast] at hsucc
      have hk := HBY.out p hps
      clear hc hro hat hp hLp
      by_cases hL : kd xs p = 76
      · rw [isTurn_no1 hL, if_neg (by simp), List.append_nil] at hsucc
        have HS := Hid.mk' hsucc
        have hbe : ((s[p].toNat : Int) != 76) = false := by rw [hk, hL]; rfl
        clear hsucc hk hL
        go_wp2
        go_roundw
        case rel => exact ⟨n + 1, by omega, by go_num, by rw [HS.out]; exact hown, hbr⟩
        case measure => simp [intOf]; omega
      · have hbe : ((s[p].toNat : Int) != 76) = true := by rw [hk]; simpa using hL
        by_cases hp1 : p + 1 < xs.length
        · have hps1 : p + 1 < s.size := by omega
          have hk1 := HBY.out (p + 1) hps1
          by_cases hL1 : kd xs (p + 1) = 76
          · rw [isTurn_yes hL hp1 hL1, if_pos rfl] at hsucc
            have HS := Hid.mk' hsucc
            have hbe1 : ((s[p + 1].toNat : Int) == 76) = true := by rw [hk1, hL1]; rfl
            clear hsucc hk hL hk1 hL1
            go_wp2_with (at_builtin; refine wpList_append_own _ rfl _ _ 22 rfl w2.heap.size 3 i0 (.int .i64 0) 1 8 Try.underlying22 hi hz0 hz1 hz2 rfl (by decide) _ _ _ rfl (hown.alloc _) ⟨wr.heap.size, 0, none⟩ 1 1 [.int .i64 (p : Int)] rfl rfl (by intro t u ht; match t, ht with | 0, ht => simp at ht; subst ht; simp [Addr.add]) (by intro u hu; simp at hu; subst hu; rfl) (by unfold maxLen; omega) (by omega) (by simp; omega) ?_; intro v' w3 hown' hgrow _)
            have R := Hid.mk' (And.intro hown' (owns_grow hown hbr _ hgrow))
            clear hown' hgrow hown hbr
            go_wp2
            go_roundw
            case rel => exact ⟨n + 1, by omega, by go_num, by rw [HS.out, List.map_append, List.length_append]; exact R.out.1, R.out.2⟩
            case measure => simp [intOf]; omega
          · rw [isTurn_no3 hL1, if_neg (by simp), List.append_nil] at hsucc
            have HS := Hid.mk' hsucc
            have hbe1 : ((s[p + 1].toNat : Int) == 76) = false := by rw [hk1]; simpa using hL1
            clear hsucc hk hL hk1 hL1
            go_wp2
            go_roundw
            case rel => exact ⟨n + 1, by omega, by go_num, by rw [HS.out]; exact hown, hbr⟩
            case measure => simp [intOf]; omega
        · rw [isTurn_no2 hp1, if_neg (by simp), List.append_nil] at hsucc
          have HS := Hid.mk' hsucc
          clear hsucc hk hL
          go_wp2
          go_roundw
          case rel => exact ⟨n + 1, by omega, by go_num, by rw [HS.out]; exact hown, hbr⟩
          case measure => simp [intOf]; omega
    · obtain rfl : n = xs.length := by omega
      have R := Hid.mk' (And.intro (ownsRow_base hown hs02) (hb02.trans (hbr.mono hs02)))
      clear hown hbr
      have hnL : ¬ xs.length < L.length := by have := HLn.out; omega
      go_wp2
      go_ret
      exact ⟨_, L, HOr.out, rfl, R.out.1, R.out.2⟩

end Go.Proofs.Ytdhehffdddbmbaa
