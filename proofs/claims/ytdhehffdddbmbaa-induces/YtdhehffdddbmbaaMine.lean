/-
  Mine: marked, stays, mine: the caller writes into the lists that came out.
-/
import Derived.Test.YtdhehffdddbmbaaLent
namespace Go.Proofs.Ytdhehffdddbmbaa
open Go.RowKit

/-- What the caller writes: x, x-1, x-2 .. -/
def ramp (x : Int) (n : Nat) : List Int := (List.range n).map (fun i : Nat => wrap64 (x - (i : Int)))
theorem ramp_length (x : Int) (n : Nat) : (ramp x n).length = n := by simp [ramp]
theorem ramp_succ (x : Int) (n : Nat) : ramp x (n + 1) = ramp x n ++ [wrap64 (x - n)] := by simp [ramp, List.range_succ]
theorem ramp_at (x : Int) (n i : Nat) (h : i < n) : (ramp x n).getD i 0 = wrap64 (x - i) := by simp [ramp, List.getD, h]

theorem ramp_step {cs : List Value} {x : Int} {k : Nat} (hk : k < cs.length) (h : cs.take k = (ramp x k).map (Value.int .i64)) :
    (cs.set k (.int .i64 (wrap64 (x - k)))).take (k + 1) = (ramp x (k + 1)).map (Value.int .i64) := by
  rw [List.take_succ_eq_append_getElem (by simpa using hk), ramp_succ, List.map_append, ← h]
  simp [List.take_set_of_le]

set_option maxHeartbeats 400000 in
theorem marked_nil (x : Int) (w : World) : Calls Try.prog 49 #[.slice none 0 0, .int .i64 x] w fun e w' => e = .returned (.tuple #[]) ∧ w' = w := by
  go_enter Try.func49, Try.ntmps49
  go_wp2
  refine wp_loop_rounds 1 ?_
  rw [rounds_succ]
  go_wp2
  go_end0
  exact ⟨rfl, rfl⟩

set_option maxHeartbeats 400000 in
theorem marked_own (g n cap : Nat) (x : Int) (cs : List Value) (w : World) (ho : OwnV w g 3 cs) (hc : cs.length = cap) (hm : cap ≤ 9223372036854775807) :
    Calls Try.prog 49 #[.slice (some ⟨g, 0, none⟩) n cap, .int .i64 x] w fun e w' => e = .returned (.tuple #[]) ∧ Own w' g (ramp x cap) ∧ w.grownBy w' (some g) ∧ w'.heap.size = w.heap.size := by
  go_enter Try.func49, Try.ntmps49
  go_wp2
  go_loopw [5] (fun i wr => ∃ (k : Nat) (ds : List Value), k ≤ cap ∧ i = .int .i64 k ∧ ds.length = cap ∧ ds.take k = (ramp x k).map (Value.int .i64) ∧ OwnV wr g 3 ds ∧ w.grownBy wr (some g) ∧ wr.heap.size = w.heap.size) (fun i _ => cap - (intOf i).toNat)
  case atStart => exact ⟨0, cs, Nat.zero_le _, rfl, hc, rfl, ho, World.grownBy.refl _ _, rfl⟩
  case round =>
    obtain ⟨k, ds, hk, rfl, hd, ht, hod, hg, hs⟩ := hrel
    by_cases hlt : k < cap
    · obtain ⟨u, hc1⟩ : ∃ u, wr.cell? ⟨g, k, none⟩ = some u := ⟨_, hod.cell (i := k) (by omega)⟩
      have hf1 := hod.frozen k
      have R := Hid.mk' (And.intro (ramp_step (by omega) ht) (And.intro (hod.set k (.int .i64 (wrap64 (x - k)))) (And.intro (grownBy_setCell hg k (.int .i64 (wrap64 (x - k)))) (And.intro hs hd))))
      clear ht hod hg hs ho hd hc
      go_wp2
      go_roundw
      case rel => exact ⟨k + 1, _, by omega, by go_num, by simpa using R.out.2.2.2.2, R.out.1, R.out.2.1, R.out.2.2.1, by simpa [World.setCell] using R.out.2.2.2.1⟩
      case measure => simp [intOf]; omega
    · have R := Hid.mk' (And.intro ht (And.intro hod (And.intro hg (And.intro hs hd))))
      clear ht hod hg hs ho hd hc
      go_wp2
      go_end0
      obtain ⟨ht, hod, hg, hs, hd⟩ := R.out
      rw [List.take_of_length_le (by omega), show k = cap by omega] at ht
      subst ht
      exact ⟨rfl, hod.own, hg, hs⟩

set_option maxHeartbeats 400000 in
theorem stays_nil (x : Int) (w : World) : Calls Try.prog 50 #[.slice none 0 0, .int .i64 x] w fun e w' => e = .returned (.bool true) ∧ w' = w := by
  go_enter Try.func50, Try.ntmps50
  go_wp2
  refine wp_loop_rounds 1 ?_
  rw [rounds_succ]
  go_wp2
  go_ret
  exact ⟨rfl, rfl⟩

set_option maxHeartbeats 400000 in
theorem stays_own (g n cap : Nat) (x : Int) (w : World) (ho : Own w g (ramp x cap)) (hm : cap ≤ 9223372036854775807) :
    Calls Try.prog 50 #[.slice (some ⟨g, 0, none⟩) n cap, .int .i64 x] w fun e w' => e = .returned (.bool true) ∧ w' = w := by
  go_enter Try.func50, Try.ntmps50
  go_wp2
  go_loop [6] (fun i => ∃ k : Nat, k ≤ cap ∧ i = .int .i64 k) (fun i => cap - (intOf i).toNat)
  case atStart => exact ⟨0, Nat.zero_le _, rfl⟩
  case round =>
    obtain ⟨k, hk, rfl⟩ := hrel
    by_cases hlt : k < cap
    · have hc1 := ho.cell (i := k) (by rw [ramp_length]; exact hlt)
      rw [ramp_at _ _ _ hlt] at hc1
      clear ho
      go_wp2
      go_round
      case rel => exact ⟨k + 1, by omega, by go_num⟩
      case measure => simp [intOf]; omega
    · go_wp2
      go_ret
      exact ⟨rfl, rfl⟩

/-- A list that came out: nil, or a row of its own. -/
def FreeV (w : World) (v : Value) : Prop := v = .slice none 0 0 ∨ ∃ g n cap cs, v = .slice (some ⟨g, 0, none⟩) n cap ∧ OwnV w g 3 cs ∧ cs.length = cap ∧ cap ≤ 9223372036854775807
/-- The caller has written into it, its spare room too. -/
def Marked (w : World) (v : Value) (x : Int) : Prop := v = .slice none 0 0 ∨ ∃ g n cap, v = .slice (some ⟨g, 0, none⟩) n cap ∧ Own w g (ramp x cap) ∧ cap ≤ 9223372036854775807

theorem FreeV.kept {w w' : World} {v : Value} {r : Option Nat} (h : FreeV w v) (hg : w.grownBy w' r) (hne : v.ownBlock = none ∨ v.ownBlock ≠ r) : FreeV w' v := by
  rcases h with h | ⟨g, n, cap, cs, rfl, h2, h3⟩
  · exact .inl h
  · refine .inr ⟨g, n, cap, cs, rfl, h2.kept hg ?_, h3⟩
    rcases hne with e | e
    · simp [Value.ownBlock] at e
    · simpa [Value.ownBlock] using e
theorem FreeV.below {w w' : World} {v : Value} (h : FreeV w v) (hb : Below w.heap.size w w') : FreeV w' v := by
  rcases h with h | ⟨g, n, cap, cs, rfl, h2, h3⟩
  · exact .inl h
  · exact .inr ⟨g, n, cap, cs, rfl, h2.below hb h2.lt, h3⟩
theorem FreeV.drewN {w : World} {v : Value} (h : FreeV w v) (q : Nat) : FreeV (w.drewN q) v := h
theorem Marked.kept {w w' : World} {v : Value} {x : Int} {r : Option Nat} (h : Marked w v x) (hg : w.grownBy w' r) (hne : v.ownBlock = none ∨ v.ownBlock ≠ r) : Marked w' v x := by
  rcases h with h | ⟨g, n, cap, rfl, h2, h3⟩
  · exact .inl h
  · refine .inr ⟨g, n, cap, rfl, h2.kept hg ?_, h3⟩
    rcases hne with e | e
    · simp [Value.ownBlock] at e
    · simpa [Value.ownBlock] using e
theorem FreeV.of_owns {w : World} {B : Nat} {v : Value} {n : Nat} {xs : List Value} (h : w.ownsRow B 3 1 v n xs) : FreeV w v := by
  rcases h.2 with ⟨rfl, _⟩ | ⟨g, cap, cur, rfl, _, hh, _, hm, hsz, _⟩
  · exact .inl rfl
  · exact .inr ⟨g, n, cap, cur.toList, rfl, hh, by simpa using hsz, by unfold maxLen at hm; omega⟩
theorem FreeV.of_own {w : World} {g n : Nat} {cs : List Int} (h : Own w g cs) (hc : cs.length ≤ 9223372036854775807) : FreeV w (.slice (some ⟨g, 0, none⟩) n cs.length) :=
  .inr ⟨g, n, cs.length, cs.map (Value.int .i64), rfl, h.v, by simp, hc⟩

theorem owns_of_own {w : World} {B g : Nat} {l : List Int} {n : Nat} (h : Own w g l) (hB : B ≤ g) (hn : l.length = n) (hl : n ≤ maxLen) : w.ownsRow B 3 1 (.slice (some ⟨g, 0, none⟩) n n) n (l.map (Value.int .i64)) := by
  refine ⟨by simp [hn], .inr ⟨g, n, (l.map (Value.int .i64)).toArray, rfl, hB, h, Nat.le_refl _, hl, by simp [hn], ?_⟩⟩
  rw [Nat.mul_one]
  exact List.take_of_length_le (by simp [hn])

theorem marked_any (v : Value) (x : Int) (w : World) (h : FreeV w v) :
    Calls Try.prog 49 #[v, .int .i64 x] w fun e w' => e = .returned (.tuple #[]) ∧ Marked w' v x ∧ w.grownBy w' v.ownBlock ∧ w'.heap.size = w.heap.size := by
  rcases h with rfl | ⟨g, n, cap, cs, rfl, h2, h3, h4⟩
  · refine (marked_nil x w).mono ?_
    rintro e w' ⟨rfl, rfl⟩
    exact ⟨rfl, .inl rfl, World.grownBy.refl _ _, rfl⟩
  · refine (marked_own g n cap x cs w h2 h3 h4).mono ?_
    rintro e w' ⟨rfl, h5, h6, h7⟩
    exact ⟨rfl, .inr ⟨g, n, cap, rfl, h5, h4⟩, h6, h7⟩
theorem stays_any (v : Value) (x : Int) (w : World) (h : Marked w v x) :
    Calls Try.prog 50 #[v, .int .i64 x] w fun e w' => e = .returned (.bool true) ∧ w' = w := by
  rcases h with rfl | ⟨g, n, cap, rfl, h2, h3⟩
  · exact stays_nil x w
  · exact stays_own g n cap x w h2 h3

theorem grownBy_below' {a w : World} {r : Option Nat} {B : Nat} (h : a.grownBy w r) (hB : B ≤ a.heap.size) (hr : ∀ k, r = some k → B ≤ k) : Below B a w :=
  ⟨h.os, h.tape, h.output, h.size, fun k hk => h.block k (by omega) (fun e => by have := hr k e.symm; omega)⟩

set_option maxHeartbeats 400000 in
/-- Two lists that came out, each nil or a row of its own. -/
theorem mine_any (B : Nat) (v v' : Value) (w : World) (hB : B ≤ w.heap.size) (h : FreeV w v) (h' : FreeV w v') (hb : ∀ k, v.ownBlock = some k → B ≤ k) (hb' : ∀ k, v'.ownBlock = some k → B ≤ k) (hne : v.ownBlock = none ∨ v.ownBlock ≠ v'.ownBlock) :
    Calls Try.prog 24 #[v, v'] w fun e w' => e = .returned (.bool true) ∧ Below B w w' ∧ ∀ k, k < w.heap.size → some k ≠ v.ownBlock → some k ≠ v'.ownBlock → w'.heap[k]? = w.heap[k]? := by
  have hne' : v'.ownBlock = none ∨ v'.ownBlock ≠ v.ownBlock := by
    rcases hne with e | e
    · cases hq : v'.ownBlock with
      | none => exact .inl rfl
      | some k => exact .inr (by rw [e]; simp)
    · exact .inr (Ne.symm e)
  go_enter Try.func24, Try.ntmps24
  go_wp2_with fail
  refine (marked_any v _ _ h).mono ?_
  rintro e w1 ⟨rfl, h1, hg1, hs1⟩
  have ho1 := h'.kept hg1 hne'
  have HB1 := Hid.mk' (grownBy_below' hg1 hB hb)
  have HS1 := Hid.mk' hs1
  have HG1 := Hid.mk' hg1
  clear hg1 hs1
  go_wp2_with fail
  refine (marked_any v' _ _ ho1).mono ?_
  rintro e w2 ⟨rfl, h2, hg2, hs2⟩
  have h3 := h1.kept hg2 hne
  have HB2 := Hid.mk' (grownBy_below' hg2 (show B ≤ w1.heap.size by rw [HS1.out]; exact hB) hb')
  have HG2 := Hid.mk' hg2
  clear hg2 hs2
  go_wp2_with fail
  refine (stays_any v _ _ h3).mono ?_
  rintro e w3 ⟨rfl, rfl⟩
  go_wp2_with fail
  refine (stays_any v' _ _ h2).mono ?_
  rintro e w3 ⟨rfl, rfl⟩
  go_wp2
  go_ret
  exact ⟨rfl, HB1.out.trans HB2.out, fun k hk h1 h2 => (HG2.out.block k (by rw [HS1.out]; exact hk) h2).trans (HG1.out.block k hk h1)⟩

theorem mine_own (B g g' n n' cap cap' : Nat) (cs cs' : List Value) (w : World) (hB : B ≤ g) (hB' : B ≤ g') (hBw : B ≤ w.heap.size) (hne : g ≠ g')
    (ho : OwnV w g 3 cs) (hc : cs.length = cap) (hm : cap ≤ 9223372036854775807)
    (ho' : OwnV w g' 3 cs') (hc' : cs'.length = cap') (hm' : cap' ≤ 9223372036854775807) :
    Calls Try.prog 24 #[.slice (some ⟨g, 0, none⟩) n cap, .slice (some ⟨g', 0, none⟩) n' cap'] w fun e w' => e = .returned (.bool true) ∧ Below B w w' :=
  (mine_any B _ _ w hBw (.inr ⟨g, n, cap, cs, rfl, ho, hc, hm⟩) (.inr ⟨g', n', cap', cs', rfl, ho', hc', hm'⟩) (fun k hk => by simp [Value.ownBlock] at hk; omega) (fun k hk => by simp [Value.ownBlock] at hk; omega) (.inr (by simpa [Value.ownBlock] using hne))).mono fun _ _ h => ⟨h.1, h.2.1⟩

end Go.Proofs.Ytdhehffdddbmbaa
