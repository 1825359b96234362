/-
  RefDense: the walks of the document's own Dense and Buckets.
-/
import Derived.Test.YtdhehffdddbmbaaDense
namespace Go.Proofs.Ytdhehffdddbmbaa
open Go.RowKit

theorem Rd.drewN {w : World} {a : Option Addr} {xs : List Int} (h : Rd w a xs) (q : Nat) : Rd (w.drewN q) a xs := h

theorem in_len (a : Option Addr) (len cap : Nat) (xs : List Int) (v : Int) (w : World) (hr : Rd w a xs) (hl : xs.length ≤ maxLen) (hlen : xs.length = len) :
    Calls Try.prog 70 #[.slice a len cap, .int .i64 v] w fun e w' => e = .returned (.bool (decide (v ∈ xs))) ∧ w' = w := by
  subst hlen; exact in_any a cap xs v w hr hl

theorem in_yes (a : Option Addr) (len cap : Nat) (xs : List Int) (v : Int) (w : World) (hr : Rd w a xs) (hl : xs.length ≤ maxLen) (hlen : xs.length = len) (h : Hid (v ∈ xs)) :
    Calls Try.prog 70 #[.slice a len cap, .int .i64 v] w fun e w' => e = .returned (.bool true) ∧ w' = w := by
  have := in_len a len cap xs v w hr hl hlen
  rwa [decide_eq_true h.out] at this
theorem in_no (a : Option Addr) (len cap : Nat) (xs : List Int) (v : Int) (w : World) (hr : Rd w a xs) (hl : xs.length ≤ maxLen) (hlen : xs.length = len) (h : Hid (¬ v ∈ xs)) :
    Calls Try.prog 70 #[.slice a len cap, .int .i64 v] w fun e w' => e = .returned (.bool false) ∧ w' = w := by
  have := in_len a len cap xs v w hr hl hlen
  rwa [decide_eq_false h.out] at this

theorem cl_cons (x : Int) (l : List Int) (v : Int) : cl (x :: l) v = cl l v + if x < v then 1 else 0 := by simp [cl, List.countP_cons]

/-- How many different numbers of the first n are less than v. -/
def dl (xs : List Int) (n : Nat) (v : Int) : Nat := cl (dis (xs.take n)) v
theorem dl_had {xs : List Int} {n : Nat} (h : n < xs.length) (v : Int) (hm : xs[n] ∈ xs.take n) : dl xs (n + 1) v = dl xs n v := by
  unfold dl; rw [take_snoc h, dis_snoc, if_pos hm]
theorem dl_new {xs : List Int} {n : Nat} (h : n < xs.length) (v : Int) (hm : ¬ xs[n] ∈ xs.take n) : dl xs (n + 1) v = dl xs n v + if xs[n] < v then 1 else 0 := by
  unfold dl; rw [take_snoc h, dis_snoc, if_neg hm, cl_cons]
theorem dl_le (xs : List Int) (n : Nat) (v : Int) : dl xs n v ≤ n := Nat.le_trans (cl_le _ _) (Nat.le_trans (dis_length_le _) (List.length_take_le _ _))
theorem dl_all (xs : List Int) (v : Int) : dl xs xs.length v = cl (dis xs) v := by unfold dl; rw [List.take_length]

set_option maxHeartbeats 800000 in
set_option maxRecDepth 100000 in
theorem refLesser_any (a : Option Addr) (cap : Nat) (xs : List Int) (v : Int) (w : World) (hr : Rd w a xs) (hl : xs.length ≤ 1073741824) (hcap : xs.length ≤ cap) :
    Calls Try.prog 48 #[.slice a xs.length cap, .int .i64 v] w fun e w' => e = .returned (.int .i64 (cl (dis xs) v)) ∧ ∃ q, w' = w.drewN q := by
  go_enter Try.func48, Try.ntmps48
  go_wp2
  go_loopw [5, 6] (fun c i wr => ∃ n q : Nat, n ≤ xs.length ∧ i = .int .i64 n ∧ c = .int .i64 (dl xs n v) ∧ wr = w.drewN q) (fun _ i _ => xs.length - (intOf i).toNat)
  case atStart => exact ⟨0, 0, Nat.zero_le _, rfl, rfl, rfl⟩
  case round =>
    obtain ⟨n, q, hn, rfl, rfl, hw⟩ := hrel
    have hr1 : Rd wr a xs := by rw [hw]; exact hr
    have HW := Hid.mk' hw
    clear hw hr
    have hcl := dl_le xs n v
    by_cases hlt : n < xs.length
    · have hrt : Rd wr a (xs.take n) := hr1.take n
      have hnc : n ≤ cap := by omega
      obtain ⟨b, off, rfl, hb, hc⟩ := hr1.at hlt
      have hc1 := hc n hlt
      clear hc hr1
      by_cases hm : xs[n] ∈ xs.take n
      · have HS := Hid.mk' (dl_had hlt v hm)
        have HI := Hid.mk' (fun q' => in_yes (some ⟨b, off, none⟩) n cap (xs.take n) xs[n] (wr.drewN q') hrt (by unfold maxLen; simp; omega) (by simp; omega) hm)
        clear hm
        go_wp2
        go_quiet ((go_at_call 70; exact Calls.quiet_of_same (HI.out _)))
        go_wp2
        go_roundw
        case rel => exact ⟨n + 1, _, by omega, by go_num, by rw [HS.out], by rw [HW.out, World.drewN_drewN]⟩
        case measure => simp [intOf]; omega
      · have HS := Hid.mk' (dl_new hlt v hm)
        have HI := Hid.mk' (fun q' => in_no (some ⟨b, off, none⟩) n cap (xs.take n) xs[n] (wr.drewN q') hrt (by unfold maxLen; simp; omega) (by simp; omega) hm)
        clear hm
        by_cases hv : xs[n] < v
        · go_wp2
          go_quiet ((go_at_call 70; exact Calls.quiet_of_same (HI.out _)))
          go_wp2
          go_roundw
          case rel => exact ⟨n + 1, _, by omega, by go_num, by rw [HS.out, if_pos hv]; go_num, by rw [HW.out, World.drewN_drewN]⟩
          case measure => simp [intOf]; omega
        · go_wp2
          go_quiet ((go_at_call 70; exact Calls.quiet_of_same (HI.out _)))
          go_wp2
          go_roundw
          case rel => exact ⟨n + 1, _, by omega, by go_num, by rw [HS.out, if_neg (by omega)]; go_num, by rw [HW.out, World.drewN_drewN]⟩
          case measure => simp [intOf]; omega
    · have hn' : n = xs.length := by omega
      subst hn'
      go_wp2
      go_ret
      exact ⟨ret_int (by rw [dl_all]), q, HW.out⟩

theorem alpha_ex (xs : List Int) : ∃ l, Alpha xs l := by
  refine ⟨(dis xs).mergeSort (fun a b => decide (a ≤ b)), ?_, fun x => ?_⟩
  · have hp : ((dis xs).mergeSort (fun a b => decide (a ≤ b))).Pairwise (fun a b => decide (a ≤ b) = true) :=
      List.pairwise_mergeSort (fun a b c h1 h2 => by simp at h1 h2 ⊢; omega) (fun a b => by simp; omega) _
    have hn : ((dis xs).mergeSort (fun a b => decide (a ≤ b))).Nodup := (List.mergeSort_perm _ _).nodup_iff.2 (nodup_dis xs)
    refine List.Pairwise.imp₂ ?_ hp hn
    intro a b h1 h2
    simp at h1
    omega
  · rw [(List.mergeSort_perm _ _).mem_iff, mem_dis]

/-- The greatest number so far, and one more. -/
def Top (xs : List Int) (k n : Nat) : Prop := (∀ x ∈ xs.take k, cl (dis xs) x < n) ∧ (n = 0 ∨ ∃ x ∈ xs.take k, n = cl (dis xs) x + 1)
theorem Top.start (xs : List Int) : Top xs 0 0 := ⟨by simp, .inl rfl⟩
theorem Top.more {xs : List Int} {k n : Nat} (h : Top xs k n) (hk : k < xs.length) (hg : n ≤ cl (dis xs) xs[k]) : Top xs (k + 1) (cl (dis xs) xs[k] + 1) := by
  refine ⟨?_, .inr ⟨xs[k], ?_, rfl⟩⟩
  · intro x hx
    rw [take_snoc hk] at hx
    rcases List.mem_append.1 hx with h1 | h1
    · have := h.1 x h1; omega
    · simp at h1; subst h1; omega
  · rw [take_snoc hk]; exact List.mem_append_right _ (List.mem_singleton.2 rfl)
theorem Top.less {xs : List Int} {k n : Nat} (h : Top xs k n) (hk : k < xs.length) (hg : ¬ n ≤ cl (dis xs) xs[k]) : Top xs (k + 1) n := by
  refine ⟨?_, ?_⟩
  · intro x hx
    rw [take_snoc hk] at hx
    rcases List.mem_append.1 hx with h1 | h1
    · exact h.1 x h1
    · simp at h1; subst h1; omega
  · rcases h.2 with h1 | ⟨x, hx, h1⟩
    · exact .inl h1
    · exact .inr ⟨x, by rw [take_snoc hk]; exact List.mem_append_left _ hx, h1⟩
theorem Top.done {xs : List Int} {n : Nat} (h : Top xs xs.length n) : n = kinds xs := by
  obtain ⟨l, hl⟩ := alpha_ex xs
  rw [hl.kinds]
  unfold Top at h
  rw [List.take_length] at h
  refine hl.max (fun x hx => ?_) ?_
  · rw [← hl.cl]; exact h.1 x hx
  · rcases h.2 with h1 | ⟨x, hx, h1⟩
    · exact .inl h1
    · exact .inr ⟨x, hx, by rw [← hl.cl]; exact h1⟩
theorem Top.le {xs : List Int} {k n : Nat} (h : Top xs k n) : n ≤ xs.length + 1 := by
  rcases h.2 with h1 | ⟨x, _, h1⟩
  · omega
  · have := cl_le (dis xs) x
    have := dis_length_le xs
    omega

set_option maxHeartbeats 800000 in
set_option maxRecDepth 100000 in
theorem refDense_any (a : Option Addr) (cap : Nat) (xs : List Int) (w : World) (hr : Rd w a xs) (hl : xs.length ≤ 1073741824) (hcap : xs.length ≤ cap) :
    Calls Try.prog 21 #[.slice a xs.length cap] w fun e w' => e = .returned (.tuple #[.slice (some ⟨w.heap.size, 0, none⟩) xs.length xs.length, .int .i64 (kinds xs)]) ∧ Own w' w.heap.size (dense xs) ∧ Below w.heap.size w w' := by
  obtain ⟨i0, hi, hz0, hz1, hz2⟩ := info_parts Try.info3
  have hml : xs.length ≤ maxLen := by unfold maxLen; omega
  go_enter Try.func21, Try.ntmps21
  go_wp2_with (at_make; refine wpList_make_full _ rfl _ _ 22 rfl w.heap.size 3 i0 (.int .i64 0) 1 Try.underlying22 hi hz0 hz1 _ _ _ _ xs.length rfl rfl (by omega) (by omega) ?b2 hml (Nat.le_refl _) ?_)
  case b2 => rw [hz2]; omega
  intro w2 hown0 hgrow0
  obtain ⟨ho, hb2, hs2⟩ := made_row hown0 hgrow0
  clear hown0 hgrow0
  go_wp2
  go_loopw [4, 6] (fun m i wr => ∃ (n t : Nat) (ds : List Int), n ≤ xs.length ∧ i = .int .i64 n ∧ m = .int .i64 t ∧ Hid (Top xs n t) ∧ ds.length = xs.length ∧ ds.take n = (xs.take n).map (fun x => (cl (dis xs) x : Int)) ∧ Own wr w.heap.size ds ∧ Below w.heap.size w wr) (fun _ i _ => xs.length - (intOf i).toNat)
  case atStart => exact ⟨0, 0, _, Nat.zero_le _, rfl, rfl, Top.start xs, by simp, rfl, ho, hb2⟩
  case round =>
    obtain ⟨n, t, ds, hn, rfl, rfl, HT, hd, ht, hod, hbr⟩ := hrel
    have hrr := hr.below hbr
    have htl := HT.out.le
    clear ho hb2 hs2 hr
    by_cases hlt : n < xs.length
    · obtain ⟨b, off, rfl, hb, hc⟩ := hrr.at hlt
      have hc1 := hc n hlt
      have hc2 := hod.cell (i := n) (by omega)
      have hf2 := hod.frozen n
      have hcl : cl (dis xs) xs[n] ≤ xs.length := Nat.le_trans (cl_le _ _) (dis_length_le _)
      have R := Hid.mk' (And.intro (dense_step (f := fun x => (cl (dis xs) x : Int)) hlt hd ht) (And.intro hod (And.intro hbr hd)))
      clear hc ht hod hbr hd
      by_cases hg : t ≤ cl (dis xs) xs[n]
      · have HT2 := Hid.mk' (HT.out.more hlt hg)
        go_wp2_with fail
        refine (refLesser_any _ _ xs _ _ hrr hl hcap).mono ?_
        rintro e w3 ⟨rfl, q, rfl⟩
        go_wp2
        go_roundw
        case rel => exact ⟨n + 1, _, _, by omega, by go_num, by go_num, HT2, by simpa using R.out.2.2.2, R.out.1, (R.out.2.1.drewN q).set n _, (below_drewN R.out.2.2.1 q).setCell (Nat.le_refl _) _⟩
        case measure => simp [intOf]; omega
      · have HT2 := Hid.mk' (HT.out.less hlt hg)
        go_wp2_with fail
        refine (refLesser_any _ _ xs _ _ hrr hl hcap).mono ?_
        rintro e w3 ⟨rfl, q, rfl⟩
        go_wp2
        go_roundw
        case rel => exact ⟨n + 1, _, _, by omega, by go_num, rfl, HT2, by simpa using R.out.2.2.2, R.out.1, (R.out.2.1.drewN q).set n _, (below_drewN R.out.2.2.1 q).setCell (Nat.le_refl _) _⟩
        case measure => simp [intOf]; omega
    · have R := Hid.mk' (And.intro ht (And.intro hod (And.intro hbr hd)))
      have hn' : n = xs.length := by omega
      subst hn'
      have HK := Hid.mk' HT.out.done
      clear ht hod hbr hd hrr
      go_wp2
      go_ret2
      obtain ⟨ht, hod, hbr, hd⟩ := R.out
      rw [List.take_of_length_le (by omega), List.take_of_length_le (by omega)] at ht
      have hde : ds = dense xs := ht
      subst hde
      exact ⟨by rw [← HK.out]; rfl, hod, hbr⟩

/-- The first n numbers of Buckets. -/
def bkTo (xs : List Int) (n : Nat) : List Int := (List.range n).map (fun c : Nat => (cl (dense xs) c : Int))
theorem bkTo_succ (xs : List Int) (n : Nat) : bkTo xs (n + 1) = bkTo xs n ++ [(cl (dense xs) n : Int)] := by simp [bkTo, List.range_succ]
theorem bkTo_length (xs : List Int) (n : Nat) : (bkTo xs n).length = n := by simp [bkTo]
theorem bkTo_all (xs : List Int) : bkTo xs (kinds xs + 1) = buckets xs := rfl
theorem kinds_le (xs : List Int) : kinds xs ≤ xs.length := dis_length_le xs

theorem owns_block {w : World} {B : Nat} {e : TypeId} {size : Nat} {v : Value} {n : Nat} {xs : List Value} (h : w.ownsRow B e size v n xs) : ∀ k, v.ownBlock = some k → B ≤ k := by
  intro k hk
  rcases h.2 with ⟨rfl, _⟩ | ⟨g, _, _, rfl, hg, _⟩
  · simp [Value.ownBlock] at hk
  · simp [Value.ownBlock] at hk; omega

set_option maxHeartbeats 1600000 in
set_option maxRecDepth 100000 in
theorem refBuckets_any (a : Option Addr) (cap : Nat) (xs : List Int) (w : World) (hr : Rd w a xs) (hl : xs.length ≤ 1073741824) (hcap : xs.length ≤ cap) :
    Calls Try.prog 22 #[.slice a xs.length cap] w fun e w' => ∃ v, e = .returned v ∧ w'.ownsRow w.heap.size 3 1 v (buckets xs).length ((buckets xs).map (Value.int .i64)) ∧ Below w.heap.size w w' := by
  obtain ⟨i0, hi, hz0, hz1, hz2⟩ := info_parts Try.info3
  have hkl := kinds_le xs
  go_enter Try.func22, Try.ntmps22
  go_wp2_with fail
  refine (refDense_any _ _ xs _ hr hl hcap).mono ?_
  rintro e w1 ⟨rfl, ho1, hb1⟩
  have hlt1 := ho1.lt
  go_wp2
  go_loopw [5, 6] (fun out c wr => ∃ n : Nat, n ≤ kinds xs + 1 ∧ c = .int .i64 n ∧ wr.ownsRow (w.heap.size + 1) 3 1 out (bkTo xs n).length ((bkTo xs n).map (Value.int .i64)) ∧ Below (w.heap.size + 1) w1 wr ∧ Hid (Own wr w.heap.size (dense xs)))
    (fun _ c _ => kinds xs + 1 - (intOf c).toNat)
  case atStart => exact ⟨0, Nat.zero_le _, rfl, World.ownsRow_nil _ _ _ _, Below.refl _ _, ho1⟩
  case round =>
    obtain ⟨n, hn, rfl, hown, hbr, HO⟩ := hrel
    have HB := Hid.mk' (owns_block hown)
    by_cases hlt : n < kinds xs + 1
    · have hsz := hbr.size
      go_wp2
      go_loop [7, 8] (fun k i => ∃ j : Nat, j ≤ xs.length ∧ i = .int .i64 j ∧ k = .int .i64 (cl ((dense xs).take j) n)) (fun _ i => xs.length - (intOf i).toNat)
      case atStart => exact ⟨0, Nat.zero_le _, rfl, rfl⟩
      case round =>
        obtain ⟨j, hj, rfl, rfl⟩ := hrel
        have hcl := cl_take_le (dense xs) j n
        by_cases hjl : j < xs.length
        · have hjd : j < (dense xs).length := by rw [dense_length]; exact hjl
          have hc1 := HO.out.cell hjd
          have HS := Hid.mk' (cl_step hjd n)
          by_cases h0 : (dense xs)[j] < n
          · go_wp2
            go_round
            case rel => exact ⟨j + 1, by omega, by go_num, by rw [HS.out, if_pos h0]; go_num⟩
            case measure => simp [intOf]; omega
          · go_wp2
            go_round
            case rel => exact ⟨j + 1, by omega, by go_num, by rw [HS.out, if_neg (by omega)]; go_num⟩
            case measure => simp [intOf]; omega
        · have hj' : cl ((dense xs).take j) n = cl (dense xs) n := by rw [List.take_of_length_le (by rw [dense_length]; omega)]
          have hbl := bkTo_length xs n
          go_wp2_with (at_builtin; refine wpList_append_own _ rfl _ _ 22 rfl (w.heap.size + 1) 3 i0 (.int .i64 0) 1 8 Try.underlying22 hi hz0 hz1 hz2 rfl (by decide) _ _ _ rfl (hown.alloc _) ⟨wr.heap.size, 0, none⟩ 1 1 [.int .i64 (cl (dense xs) n)] rfl rfl (by intro t u ht; match t, ht with | 0, ht => simp at ht; subst ht; simp [Addr.add]) (by intro u hu; simp at hu; subst hu; rfl) (by unfold maxLen; omega) (by omega) (by simp; omega) ?_; intro v' w3 hown' hgrow _)
          have R := Hid.mk' (And.intro hown' (And.intro (show Below (w.heap.size + 1) w1 w3 from (hbr.alloc (by omega) _).grown hgrow (by simp; omega) (fun k hk => HB.out k hk)) (show Own w3 w.heap.size (dense xs) from (HO.out.alloc _).kept hgrow (fun hk => by have := HB.out _ hk.symm; omega))))
          clear hown' hgrow hown hbr HB HO ho1
          go_wp2
          go_roundw
          case rel => exact ⟨n + 1, by omega, by go_num, by rw [bkTo_succ]; simpa using R.out.1, R.out.2.1, R.out.2.2⟩
          case measure => simp [intOf]; omega
    · have hn' : n = kinds xs + 1 := by omega
      subst hn'
      rw [bkTo_all] at hown
      have R := Hid.mk' (And.intro hown hbr)
      clear hown hbr HO ho1
      go_wp2
      go_ret
      obtain ⟨hown, hbr⟩ := R.out
      exact ⟨_, rfl, ⟨hown.1, by
        rcases hown.2 with h | ⟨g, c, cur, h1, h2, h3⟩
        · exact .inl h
        · exact .inr ⟨g, c, cur, h1, by omega, h3⟩⟩, hb1.trans (hbr.mono (by omega))⟩

end Go.Proofs.Ytdhehffdddbmbaa
