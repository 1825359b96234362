/-
  Mine: marked, stays, mine: the caller writes into the lists that came out.
-/
import Derived.Test.YtjdhhmjeiooplaaLent
namespace Go.Proofs.Ytjdhhmjeiooplaa
open Go.RowKit

/-- What the caller writes: x, x-1, x-2 .. -/
def ramp (x : Int) (n : Nat) : List Int := (List.range n).map (fun i : Nat => x - (i : Int))
theorem ramp_length (x : Int) (n : Nat) : (ramp x n).length = n := by simp [ramp]
theorem ramp_succ (x : Int) (n : Nat) : ramp x (n + 1) = ramp x n ++ [x - n] := by simp [ramp, List.range_succ]
theorem ramp_at (x : Int) (n i : Nat) (h : i < n) : (ramp x n).getD i 0 = x - i := by simp [ramp, List.getD, h]

theorem ramp_step {cs : List Value} {x : Int} {k : Nat} (hk : k < cs.length) (h : cs.take k = (ramp x k).map (Value.int .i64)) :
    (cs.set k (.int .i64 (x - k))).take (k + 1) = (ramp x (k + 1)).map (Value.int .i64) := by
  rw [List.take_succ_eq_append_getElem (by simpa using hk), ramp_succ, List.map_append, ← h]
  simp [List.take_set_of_le]

set_option maxHeartbeats 400000 in
theorem marked_nil (x : Int) (w : World) : Calls Try.prog 26 #[.slice none 0 0, .int .i64 x] w fun e w' => e = .returned (.tuple #[]) ∧ w' = w := by
  go_enter Try.func26, Try.ntmps26
  go_wp2
  refine wp_loop_rounds 1 ?_
  rw [rounds_succ]
  go_wp2
  go_end0
  exact ⟨rfl, rfl⟩

set_option maxHeartbeats 400000 in
theorem marked_own (g n cap : Nat) (x : Int) (cs : List Value) (w : World) (ho : OwnV w g 3 cs) (hc : cs.length = cap) (_hn : n ≤ cap) (hm : cap ≤ 4611686018427387904) (hx : -1099511627776 ≤ x) (hx' : x ≤ 0) :
    Calls Try.prog 26 #[.slice (some ⟨g, 0, none⟩) n cap, .int .i64 x] w fun e w' => e = .returned (.tuple #[]) ∧ Own w' g (ramp x cap) ∧ w.grownBy w' (some g) ∧ w'.heap.size = w.heap.size := by
  go_enter Try.func26, Try.ntmps26
  go_wp2
  go_loopw [5] (fun i wr => ∃ (k : Nat) (ds : List Value), k ≤ cap ∧ i = .int .i64 k ∧ ds.length = cap ∧ ds.take k = (ramp x k).map (Value.int .i64) ∧ OwnV wr g 3 ds ∧ w.grownBy wr (some g) ∧ wr.heap.size = w.heap.size) (fun i _ => cap - (intOf i).toNat)
  case atStart => exact ⟨0, cs, Nat.zero_le _, rfl, hc, rfl, ho, World.grownBy.refl _ _, rfl⟩
  case round =>
    obtain ⟨k, ds, hk, rfl, hd, ht, hod, hg, hs⟩ := hrel
    by_cases hlt : k < cap
    · obtain ⟨u, hc1⟩ : ∃ u, wr.cell? ⟨g, k, none⟩ = some u := ⟨_, hod.cell (i := k) (by omega)⟩
      have hf1 := hod.frozen k
      have R := Hid.mk' (And.intro (ramp_step (by omega) ht) (And.intro (hod.set k (.int .i64 (x - k))) (And.intro (grownBy_setCell hg k (.int .i64 (x - k))) (And.intro hs hd))))
      clear ht hod hg hs ho hd hc
      go_wp2
      go_roundw
      case rel => exact ⟨k + 1, _, by omega, by go_num, by simpa using R.out.2.2.2.2, R.out.1, R.out.2.1, R.out.2.2.1, by simpa [World.setCell] using R.out.2.2.2.1⟩
      case measure => simp [intOf]; omega
    · have R := Hid.mk' (And.intro ht (And.intro hod (And.intro hg (And.intro hs hd))))
      clear ht hod hg hs ho hd hc
      go_wp2
      go_end0
      obtain ⟨ht, hod, hg, hs, hd⟩ := R.out
      rw [List.take_of_length_le (by omega), show k = cap by omega] at ht
      subst ht
      exact ⟨rfl, hod.own, hg, hs⟩

set_option maxHeartbeats 400000 in
theorem stays_nil (x : Int) (w : World) : Calls Try.prog 27 #[.slice none 0 0, .int .i64 x] w fun e w' => e = .returned (.bool true) ∧ w' = w := by
  go_enter Try.func27, Try.ntmps27
  go_wp2
  refine wp_loop_rounds 1 ?_
  rw [rounds_succ]
  go_wp2
  go_ret
  exact ⟨rfl, rfl⟩

set_option maxHeartbeats 400000 in
theorem stays_own (g n cap : Nat) (x : Int) (w : World) (ho : Own w g (ramp x cap)) (_hn : n ≤ cap) (hm : cap ≤ 4611686018427387904) (hx : -1099511627776 ≤ x) (hx' : x ≤ 0) :
    Calls Try.prog 27 #[.slice (some ⟨g, 0, none⟩) n cap, .int .i64 x] w fun e w' => e = .returned (.bool true) ∧ w' = w := by
  go_enter Try.func27, Try.ntmps27
  go_wp2
  go_loop [6] (fun i => ∃ k : Nat, k ≤ cap ∧ i = .int .i64 k) (fun i => cap - (intOf i).toNat)
  case atStart => exact ⟨0, Nat.zero_le _, rfl⟩
  case round =>
    obtain ⟨k, hk, rfl⟩ := hrel
    by_cases hlt : k < cap
    · have hc1 := ho.cell (i := k) (by rw [ramp_length]; exact hlt)
      rw [ramp_at _ _ _ hlt] at hc1
      clear ho
      go_wp2
      go_round
      case rel => exact ⟨k + 1, by omega, by go_num⟩
      case measure => simp [intOf]; omega
    · go_wp2
      go_ret
      exact ⟨rfl, rfl⟩

/-- A list that came out: nil, or a row of its own. -/
def Free (w : World) (B : Nat) (v : Value) (cap : Nat) : Prop :=
  (v = .slice none 0 0 ∧ cap = 0) ∨ ∃ g n cs, v = .slice (some ⟨g, 0, none⟩) n cap ∧ B ≤ g ∧ OwnV w g 3 cs ∧ cs.length = cap ∧ n ≤ cap ∧ cap ≤ 4611686018427387904

set_option maxHeartbeats 400000 in
/-- Two lists that came out, each a row of its own. -/
theorem mine_own (B g g' n n' cap cap' : Nat) (cs cs' : List Value) (w : World) (hB : B ≤ g) (hB' : B ≤ g') (hBw : B ≤ w.heap.size) (hne : g ≠ g')
    (ho : OwnV w g 3 cs) (hc : cs.length = cap) (hn : n ≤ cap) (hm : cap ≤ 4611686018427387904)
    (ho' : OwnV w g' 3 cs') (hc' : cs'.length = cap') (hn' : n' ≤ cap') (hm' : cap' ≤ 4611686018427387904) :
    Calls Try.prog 16 #[.slice (some ⟨g, 0, none⟩) n cap, .slice (some ⟨g', 0, none⟩) n' cap'] w fun e w' => e = .returned (.bool true) ∧ Below B w w' := by
  go_enter Try.func16, Try.ntmps16
  go_wp2_with fail
  refine (marked_own g n cap _ cs _ ho hc hn hm (by omega) (by omega)).mono ?_
  rintro e w1 ⟨rfl, h1, hg1, hs1⟩
  have ho1 := ho'.kept hg1 (by simpa using Ne.symm hne)
  go_wp2_with fail
  refine (marked_own g' n' cap' _ cs' _ ho1 hc' hn' hm' (by omega) (by omega)).mono ?_
  rintro e w2 ⟨rfl, h2, hg2, hs2⟩
  have h3 := h1.kept hg2 (by simpa using hne)
  go_wp2_with fail
  refine (stays_own g n cap _ _ h3 hn hm (by omega) (by omega)).mono ?_
  rintro e w3 ⟨rfl, rfl⟩
  go_wp2_with fail
  refine (stays_own g' n' cap' _ _ h2 hn' hm' (by omega) (by omega)).mono ?_
  rintro e w3 ⟨rfl, rfl⟩
  go_wp2
  go_ret
  exact ⟨rfl, ((grownBy_below hg1).mono (by omega)).trans ((grownBy_below hg2).mono (by omega))⟩

end Go.Proofs.Ytjdhhmjeiooplaa
