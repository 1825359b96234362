/-
  RefOrder: the walks of the document's own Order and CheckOrder.
-/
import Derived.Test.YtdhehffdddbmbaaOrder
import Derived.Test.YtdhehffdddbmbaaRefDense
import Derived.Test.YtdhehffdddbmbaaRefKinds
namespace Go.Proofs.Ytdhehffdddbmbaa
open Go.RowKit

theorem ownsRow_base {w : World} {B B' : Nat} {e : TypeId} {size : Nat} {v : Value} {n : Nat} {xs : List Value} (h : w.ownsRow B e size v n xs) (hB : B' ≤ B) : w.ownsRow B' e size v n xs := by
  refine ⟨h.1, ?_⟩
  rcases h.2 with h1 | ⟨g, c, cur, h1, h2, h3⟩
  · exact .inl h1
  · exact .inr ⟨g, c, cur, h1, by omega, h3⟩

/-- A list that grows by append, as a slice that is read. -/
theorem owns_slice {w : World} {B : Nat} {v : Value} {n : Nat} {l : List Int} (h : w.ownsRow B 3 1 v n (l.map (Value.int .i64))) : ∃ A cap, v = .slice A n cap ∧ Rd w A l ∧ l.length = n ∧ n ≤ cap ∧ cap ≤ 9223372036854775807 := by
  have hl : l.length = n := by simpa using h.1
  rcases h.2 with ⟨rfl, rfl⟩ | ⟨g, c, cur, rfl, _, _, h1, h2, _, _⟩
  · obtain rfl : l = [] := List.eq_nil_of_length_eq_zero hl
    exact ⟨none, 0, rfl, Rd.nil _ _, rfl, Nat.le_refl _, by omega⟩
  · exact ⟨_, c, rfl, rd_of_owns h, hl, h1, by unfold maxLen at h2; omega⟩

theorem owns_grow {w wr w3 : World} {out : Value} {n : Nat} {l : List Value} (hown : wr.ownsRow w.heap.size 3 1 out n l) (hb : Below w.heap.size w wr) (o : Obj) (hg : (wr.alloc o).grownBy w3 out.ownBlock) : Below w.heap.size w w3 :=
  (hb.alloc hb.size o).grown hg (by have := hb.size; simp; omega) (fun k hk => owns_block hown k hk)

set_option maxHeartbeats 1600000 in
set_option maxRecDepth 100000 in
theorem put_any (a : Option Addr) (cap : Nat) (l : List Int) (k : Nat) (v : Int) (w : World) (hr : Rd w a l) (hl : l.length ≤ 1073741824) (hk : k ≤ l.length) :
    Calls Try.prog 73 #[.slice a l.length cap, .int .i64 k, .int .i64 v] w fun e w' => ∃ r, e = .returned r ∧ w'.ownsRow w.heap.size 3 1 r (l.length + 1) ((putAt l k v).map (Value.int .i64)) ∧ Below w.heap.size w w' := by
  obtain ⟨i0, hi, hz0, hz1, hz2⟩ := info_parts Try.info3
  go_enter Try.func73, Try.ntmps73
  go_wp2
  go_loopw [7, 8] (fun out i wr => ∃ n : Nat, n ≤ k ∧ i = .int .i64 n ∧ wr.ownsRow w.heap.size 3 1 out n ((l.take n).map (Value.int .i64)) ∧ Below w.heap.size w wr) (fun _ i _ => k - (intOf i).toNat)
  case atStart => exact ⟨0, Nat.zero_le _, rfl, World.ownsRow_nil _ _ _ _, Below.refl _ _⟩
  case round =>
    obtain ⟨n, hn, rfl, hown, hbr⟩ := hrel
    have hsz := hbr.size
    have hrr := hr.below hbr
    by_cases hlt : n < k
    · obtain ⟨b, off, rfl, hb, hc⟩ := hrr.at (i := n) (by omega)
      have hc1 := hc n (by omega)
      have hnl : n < l.length := by omega
      clear hc hrr
      go_wp2_with (at_builtin; refine wpList_append_own _ rfl _ _ 22 rfl w.heap.size 3 i0 (.int .i64 0) 1 8 Try.underlying22 hi hz0 hz1 hz2 rfl (by decide) _ _ _ rfl (hown.alloc _) ⟨wr.heap.size, 0, none⟩ 1 1 [.int .i64 l[n]] rfl rfl (by intro t u ht; match t, ht with | 0, ht => simp at ht; subst ht; simp [Addr.add]) (by intro u hu; simp at hu; subst hu; rfl) (by unfold maxLen; omega) (by omega) (by simp; omega) ?_; intro v' w3 hown' hgrow _)
      have R := Hid.mk' (And.intro hown' (owns_grow hown hbr _ hgrow))
      clear hown' hgrow hown hbr hr
      go_wp2
      go_roundw
      case rel => exact ⟨n + 1, by omega, by go_num, by rw [take_snoc hnl, List.map_append]; exact R.out.1, R.out.2⟩
      case measure => simp [intOf]; omega
    · obtain rfl : n = k := by omega
      go_wp2_with (at_builtin; refine wpList_append_own _ rfl _ _ 22 rfl w.heap.size 3 i0 (.int .i64 0) 1 8 Try.underlying22 hi hz0 hz1 hz2 rfl (by decide) _ _ _ rfl (hown.alloc _) ⟨wr.heap.size, 0, none⟩ 1 1 [.int .i64 v] rfl rfl (by intro t u ht; match t, ht with | 0, ht => simp at ht; subst ht; simp [Addr.add]) (by intro u hu; simp at hu; subst hu; rfl) (by unfold maxLen; omega) (by omega) (by simp; omega) ?_; intro v' w3 hown' hgrow _)
      have R := Hid.mk' (And.intro hown' (owns_grow hown hbr _ hgrow))
      clear hown' hgrow hown hbr hrr hsz
      go_wp2
      go_loopw [7, 9] (fun out i wq => ∃ j : Nat, n ≤ j ∧ j ≤ l.length ∧ i = .int .i64 j ∧ wq.ownsRow w.heap.size 3 1 out (j + 1) ((l.take n ++ (v :: (l.drop n).take (j - n))).map (Value.int .i64)) ∧ Below w.heap.size w wq) (fun _ i _ => l.length - (intOf i).toNat)
      case atStart => exact ⟨n, Nat.le_refl _, by omega, rfl, by simpa using R.out.1, R.out.2⟩
      case round =>
        obtain ⟨j, hnj, hj, rfl, hown, hbr⟩ := hrel
        have hsz := hbr.size
        have hrr := hr.below hbr
        by_cases hlt : j < l.length
        · obtain ⟨b, off, rfl, hb, hc⟩ := hrr.at hlt
          have hc1 := hc j hlt
          clear hc hrr R
          go_wp2_with (at_builtin; refine wpList_append_own _ rfl _ _ 22 rfl w.heap.size 3 i0 (.int .i64 0) 1 8 Try.underlying22 hi hz0 hz1 hz2 rfl (by decide) _ _ _ rfl (hown.alloc _) ⟨wr.heap.size, 0, none⟩ 1 1 [.int .i64 l[j]] rfl rfl (by intro t u ht; match t, ht with | 0, ht => simp at ht; subst ht; simp [Addr.add]) (by intro u hu; simp at hu; subst hu; rfl) (by unfold maxLen; omega) (by omega) (by simp; omega) ?_; intro v' w3 hown' hgrow _)
          have R := Hid.mk' (And.intro hown' (owns_grow hown hbr _ hgrow))
          clear hown' hgrow hown hbr hr
          go_wp2
          go_roundw
          case rel =>
            refine ⟨j + 1, by omega, by omega, by go_num, ?_, R.out.2⟩
            have he : (l.drop n).take (j + 1 - n) = (l.drop n).take (j - n) ++ [l[j]] := by
              rw [show j + 1 - n = (j - n) + 1 by omega, List.take_succ_eq_append_getElem (by simp; omega)]
              simp [show n + (j - n) = j by omega]
            rw [he]
            have := R.out.1
            simp only [List.map_append, List.map_cons, List.map_nil, List.append_assoc, List.cons_append] at this ⊢
            exact this
          case measure => simp [intOf]; omega
        · obtain rfl : j = l.length := by omega
          have he : (l.drop n).take (l.length - n) = l.drop n := List.take_of_length_le (by simp)
          rw [he] at hown
          have R := Hid.mk' (And.intro hown hbr)
          clear hown hbr hrr hr he
          go_wp2
          go_ret
          exact ⟨_, rfl, R.out.1, R.out.2⟩

theorem less_step {xs L : List Int} {n k : Nat} (hk : k < L.length) (h : ∀ p ∈ L.take k, sl xs p n) (hs : sl xs L[k] n) : ∀ p ∈ L.take (k + 1), sl xs p n := by
  intro p hp
  rw [take_snoc hk] at hp
  rcases List.mem_append.1 hp with h1 | h1
  · exact h p h1
  · simp at h1; subst h1; exact hs

set_option maxHeartbeats 1600000 in
set_option maxRecDepth 100000 in
theorem refOrder_any (a : Option Addr) (cap : Nat) (xs : List Int) (w : World) (hr : Rd w a xs) (hl : xs.length ≤ 1073741823) (hcap : xs.length ≤ cap) :
    Calls Try.prog 54 #[.slice a xs.length cap] w fun e w' => ∃ r L, Ord xs L ∧ e = .returned r ∧ w'.ownsRow w.heap.size 3 1 r xs.length (L.map (Value.int .i64)) ∧ Below w.heap.size w w' := by
  go_enter Try.func54, Try.ntmps54
  go_wp2
  go_loopw [3, 4] (fun lv i wr => ∃ (n : Nat) (L : List Int), n ≤ xs.length ∧ i = .int .i64 n ∧ Hid (OrdTo xs L n) ∧ Hid (wr.ownsRow w.heap.size 3 1 lv n (L.map (Value.int .i64))) ∧ Hid (Below w.heap.size w wr)) (fun _ i _ => xs.length - (intOf i).toNat)
  case atStart => exact ⟨0, [], Nat.zero_le _, rfl, OrdTo.start xs, World.ownsRow_nil _ _ _ _, Below.refl _ _⟩
  case round =>
    obtain ⟨n, L, hn, rfl, HO, HW, HB⟩ := hrel
    by_cases hlt : n < xs.length
    · obtain ⟨A, cL, rfl, hrL, hLn, hnc, hcm⟩ := owns_slice HW.out
      have HLn := Hid.mk' hLn
      clear hLn
      have HRL := Hid.mk' hrL
      clear hrL HW
      go_wp2
      go_loopw [5] (fun at' wq => ∃ k : Nat, k ≤ n ∧ at' = .int .i64 k ∧ Hid (∀ p ∈ L.take k, sl xs p n) ∧ Hid (Rd wq A L) ∧ Hid (Below w.heap.size w wq)) (fun at' _ => n - (intOf at').toNat)
      case atStart => exact ⟨0, Nat.zero_le _, rfl, fun p hp => by simp at hp, HRL, HB⟩
      case round =>
        clear HB HRL
        obtain ⟨k, hk, rfl, HS, HRL, HB⟩ := hrel
        have hrx := hr.below HB.out
        by_cases hkn : k < n
        · have hkL : k < L.length := by have := HLn.out; omega
          have hA := (HO.out.2 L[k]).1 (List.getElem_mem hkL)
          obtain ⟨b', off', rfl, hb', hc'⟩ := HRL.out.at hkL
          have hc1 := hc' k hkL
          obtain ⟨p, hp⟩ : ∃ p : Nat, L[k] = p := ⟨L[k].toNat, by omega⟩
          rw [show L.getD k 0 = (p : Int) by rw [← hp]; simp [List.getD, hkL]] at hc1
          have hpn : p < n := by omega
          have hpx : p < xs.length := by omega
          obtain ⟨b, off, rfl, hb, hc⟩ := hrx.at hpx
          have HQ : Hid (sl xs L[k] n ↔ lt (xs.drop p) (xs.drop n) = true) := by unfold sl Hid; rw [hp]; simp
          have hd1 : Rd wr (some ⟨b, off + p, none⟩) (xs.drop p) := hrx.drop p
          have hd2 : Rd wr (some ⟨b, off + n, none⟩) (xs.drop n) := hrx.drop n
          have HI := Hid.mk' (fun (v : Bool) (hv : lt (xs.drop p) (xs.drop n) = v) (q' : Nat) => less_len (some ⟨b, off + p, none⟩) (some ⟨b, off + n, none⟩) (xs.length - p) (xs.length - n) (cap - p) (cap - n) (xs.drop p) (xs.drop n) (wr.drewN q') hd1 hd2 (by simp; omega) (by simp) (by simp) v hv)
          clear hc hc' hp hA hd1 hd2 hrx
          cases hv : lt (xs.drop p) (xs.drop n) with
          | true =>
            have HI2 := Hid.mk' (HI.out true hv)
            have HR := Hid.mk' (less_step hkL HS.out (HQ.out.2 hv))
            clear HI hv HQ
            go_wp2
            go_quiet ((go_at_call 52; exact Calls.quiet_of (HI2.out _)))
            go_wp2
            go_roundw
            case rel => exact ⟨k + 1, by omega, by go_num, HR, HRL.out.drewN _, below_drewN HB.out _⟩
            case measure => simp [intOf]; omega
          | false =>
            have HI2 := Hid.mk' (HI.out false hv)
            have HR := Hid.mk' (HO.out.put (k := k) hlt (by omega) HS.out (fun _ h => by have := HQ.out.1 h; rw [hv] at this; cases this))
            clear HI hv HQ
            go_wp2
            go_quiet ((go_at_call 52; exact Calls.quiet_of (HI2.out _)))
            go_wp2_with fail
            have hpa := put_any (some ⟨b', off', none⟩) cL L k n (wr.drewN nq) (HRL.out.drewN nq) (by have := HLn.out; omega) (by have := HLn.out; omega)
            rw [HLn.out] at hpa
            refine hpa.mono ?_
            rintro e w4 ⟨r, rfl, hown4, hb4⟩
            have R := Hid.mk' (And.intro (ownsRow_base hown4 (show w.heap.size ≤ wr.heap.size from HB.out.size)) (show Below w.heap.size w w4 from HB.out.trans ((below_drewN (Below.refl _ _) nq).trans (hb4.mono (show w.heap.size ≤ wr.heap.size from HB.out.size)))))
            clear hpa hown4 hb4 HI2 HRL
            go_wp2
            go_roundw
            case rel => exact ⟨n + 1, _, by omega, by go_num, HR, R.out.1, R.out.2⟩
            case measure => simp [intOf]; omega
        · obtain rfl : k = n := by omega
          have HR := Hid.mk' (HO.out.put (k := k) hlt (by rw [HLn.out]; exact Nat.le_refl _) HS.out (fun h _ => by have := HLn.out; omega))
          clear hrx
          go_wp2_with fail
          have hpa := put_any A cL L k k wr HRL.out (by have := HLn.out; omega) (by have := HLn.out; omega)
          rw [HLn.out] at hpa
          refine hpa.mono ?_
          rintro e w4 ⟨r, rfl, hown4, hb4⟩
          have R := Hid.mk' (And.intro (ownsRow_base hown4 (show w.heap.size ≤ wr.heap.size from HB.out.size)) (show Below w.heap.size w w4 from HB.out.trans (hb4.mono (show w.heap.size ≤ wr.heap.size from HB.out.size))))
          clear hpa hown4 hb4 HRL
          go_wp2
          go_roundw
          case rel => exact ⟨k + 1, _, by omega, by go_num, HR, R.out.1, R.out.2⟩
          case measure => simp [intOf]; omega
    · obtain rfl : n = xs.length := by omega
      go_wp2
      go_ret
      exact ⟨_, L, HO.out, rfl, HW.out, HB.out⟩

/-- A call that tells whether P holds, and may make memory. -/
def TellsB (w : World) (P : Prop) (e : Ending) (w' : World) : Prop := ∃ b : Bool, e = .returned (.bool b) ∧ (b = true ↔ P) ∧ Below w.heap.size w w'
theorem TellsB.of {w w' : World} {P : Prop} {e : Ending} (b : Bool) (he : e = .returned (.bool b)) (h : b = true ↔ P) (hb : Below w.heap.size w w') : TellsB w P e w' := ⟨b, he, h, hb⟩

/-- What the document's CheckOrder tells: the same. -/
theorem told_of_same {xs os L : List Int} (hL : Ord xs L) (h96 : xs.length ≤ 96) (h0 : ∀ x ∈ xs, 0 ≤ x) : (L == os) = true ↔ Told xs os := by
  rw [beq_iff_eq]
  constructor
  · rintro rfl; exact ⟨h96, h0, hL⟩
  · intro h; exact hL.unique h.2.2

theorem same_lens (a a' : Option Addr) (len cap cap' : Nat) (xs ys : List Int) (w : World) (hr : Rd w a xs) (hr' : Rd w a' ys) (hl : xs.length ≤ maxLen) (hl' : ys.length ≤ maxLen) (h : xs.length = len) :
    Calls Try.prog 23 #[.slice a len cap, .slice a' ys.length cap'] w fun e w' => e = .returned (.bool (xs == ys)) ∧ ∃ q, w' = w.drewN q := by
  subst h; exact same_any a a' cap cap' xs ys w hr hr' hl hl'

set_option maxHeartbeats 1600000 in
set_option maxRecDepth 100000 in
theorem refCheckOrder_any (a a' : Option Addr) (cap cap' : Nat) (xs os : List Int) (w : World) (hr : Rd w a xs) (hr' : Rd w a' os) (hl : xs.length ≤ 1073741824) (hl' : os.length ≤ 1073741824) (hcap : xs.length ≤ cap) :
    Calls Try.prog 28 #[.slice a xs.length cap, .slice a' os.length cap'] w fun e w' => TellsB w (Told xs os) e w' := by
  have hml : xs.length ≤ maxLen := by unfold maxLen; omega
  have hml' : os.length ≤ maxLen := by unfold maxLen; omega
  by_cases h96 : 96 < xs.length
  · have HF : Hid (¬ Told xs os) := fun h => by have := h.1; omega
    have HE := Hid.mk' (scan_long (xs := xs) (k := 9223372036854775807) (by omega) h96).1
    go_enter Try.func28, Try.ntmps28
    go_wp2_with fail
    refine (refScan_any _ _ xs _ _ hr hml).mono ?_
    rintro e w1 ⟨rfl, rfl⟩
    rw [HE.out]
    go_wp2
    go_ret
    exact TellsB.of false rfl (by simp [HF.out]) (Below.refl _ _)
  · have hne : (scanE xs 9223372036854775807 == 2) = false := by
      unfold scanE
      simp [h96]
      split <;> simp
    go_enter Try.func28, Try.ntmps28
    go_wp2_with fail
    refine (refScan_any _ _ xs _ _ hr hml).mono ?_
    rintro e w1 ⟨rfl, rfl⟩
    go_wp2
    go_loop [7] (fun i => ∃ n : Nat, n ≤ xs.length ∧ i = .int .i64 n ∧ Hid (∀ x ∈ xs.take n, 0 ≤ x)) (fun i => xs.length - (intOf i).toNat)
    case atStart => exact ⟨0, Nat.zero_le _, rfl, fun x hx => by simp at hx⟩
    case round =>
      obtain ⟨n, hn, rfl, HP⟩ := hrel
      by_cases hlt : n < xs.length
      · obtain ⟨b, off, rfl, hb, hc⟩ := hr.at hlt
        have hc1 := hc n hlt
        clear hc hr
        by_cases h0 : xs[n] < 0
        · have HF : Hid (¬ Told xs os) := fun h => by have := h.2.1 xs[n] (List.getElem_mem hlt); omega
          go_wp2
          go_ret
          exact TellsB.of false rfl (by simp [HF.out]) (Below.refl _ _)
        · have HS := Hid.mk' (from0_step hlt HP.out h0)
          go_wp2
          go_round
          case rel => exact ⟨n + 1, by omega, by go_num, HS⟩
          case measure => simp [intOf]; omega
      · have HS : Hid (∀ x ∈ xs, 0 ≤ x) := by have := HP.out; rwa [List.take_of_length_le (by omega)] at this
        go_wp2_with fail
        refine (refOrder_any _ _ xs _ hr (by omega) hcap).mono ?_
        rintro e w2 ⟨r, L, hL, rfl, hown, hb2⟩
        have HT := Hid.mk' (told_of_same (os := os) hL (by omega) HS.out)
        obtain ⟨A, cL, rfl, hrL, hLn, hnc, hcm⟩ := owns_slice hown
        have HLn := Hid.mk' hLn
        have hr2 := hr'.below hb2
        clear hLn hown hL
        go_wp2_with fail
        refine (same_lens _ _ _ _ _ L os _ hrL hr2 (by rw [HLn.out]; exact hml) hml' HLn.out).mono ?_
        rintro e w3 ⟨rfl, q, rfl⟩
        generalize (L == os) = bb at HT ⊢
        go_wp2
        go_ret
        exact TellsB.of bb rfl HT.out (below_drewN hb2 q)

end Go.Proofs.Ytdhehffdddbmbaa
