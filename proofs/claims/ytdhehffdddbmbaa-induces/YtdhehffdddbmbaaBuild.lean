/-
  Build: P8 to P10, P13, P15: the walks of the program's sharedBy, sortBy and Build.
-/
import Derived.Test.YtdhehffdddbmbaaBuiltLaw
import Derived.Test.YtdhehffdddbmbaaSort
import Derived.Test.YtdhehffdddbmbaaNeigh
import Derived.Test.YtdhehffdddbmbaaMSort
import Derived.Test.YtdhehffdddbmbaaTurnD
namespace Go.Proofs.Ytdhehffdddbmbaa
open Go.RowKit

set_option maxHeartbeats 800000 in
theorem sharedBy_any (a a' : Option Addr) (cap cap' : Nat) (xs L : List Int) (bY : Int) (w : World) (hr : Rd w a xs) (hr' : Rd w a' L) (hl : xs.length ≤ 1073741823) (hO : Ord xs L) :
    Calls Try.prog 76 #[.slice a xs.length cap, .slice a' xs.length cap', .int .i64 bY] w fun e w' => ∃ g, e = .returned (.slice (some ⟨g, 0, none⟩) xs.length xs.length) ∧ w.heap.size ≤ g ∧ Own w' g (shared xs L) ∧ Below w.heap.size w w' := by
  have HOr := Hid.mk' hO
  clear hO
  by_cases h1 : bY = 1
  · have hb : (bY == 1) = true := by simp [h1]
    clear h1
    go_enter Try.func76, Try.ntmps76
    go_wp2_with fail
    refine (phi_any _ _ _ _ xs L _ hr hr' hl HOr.out).mono ?_
    rintro e w1 ⟨g, rfl, hg, ho, hb1⟩
    go_wp2
    go_ret
    exact ⟨g, rfl, hg, ho, hb1⟩
  · have hb : (bY == 1) = false := by simp [h1]
    clear h1
    go_enter Try.func76, Try.ntmps76
    go_wp2_with fail
    refine (kasai_any _ _ _ _ xs L _ hr hr' hl HOr.out).mono ?_
    rintro e w1 ⟨g, rfl, hg, ho, hb1⟩
    go_wp2
    go_ret
    exact ⟨g, rfl, hg, ho, hb1⟩

set_option maxHeartbeats 800000 in
theorem buildErr : BuildErr := by
  intro a cap xs k way bY c w hr hcap hl hcap' hs
  have hml : xs.length ≤ maxLen := by unfold maxLen; omega
  have hb : (scanE xs k != 0) = true := by simpa using hs
  clear hs
  go_enter Try.func57, Try.ntmps57
  go_wp2_with (go_at_call 44; refine (fault_any a cap xs k _ hr hml).mono ?_; rintro e w' ⟨rfl, rfl⟩)
  go_ret2
  exact ⟨rfl, Below.refl _ _⟩

set_option maxHeartbeats 800000 in
theorem buildOpt : BuildOpt := by
  intro a cap xs k way bY c w hr hcap hcap' hs hopt
  have hl := (scan_zero hs).1
  have hml : xs.length ≤ maxLen := by unfold maxLen; omega
  have hb : (scanE xs k != 0) = false := by simpa using hs
  clear hs
  by_cases h1 : way < 0 ∨ 2 < way
  · have e0 : (way != 0) = true := by simp; omega
    have e1 : (way != 1) = true := by simp; omega
    have e2 : (way != 2) = true := by simp; omega
    clear hopt h1
    go_enter Try.func57, Try.ntmps57
    go_wp2_with (go_at_call 44; refine (fault_any a cap xs k _ hr hml).mono ?_; rintro e w' ⟨rfl, rfl⟩)
    go_ret2
    exact ⟨rfl, Below.refl _ _⟩
  · have e3 : (bY != 0) = true := by simp; omega
    have e4 : (bY != 1) = true := by simp; omega
    have hw : way = 0 ∨ way = 1 ∨ way = 2 := by omega
    clear hopt h1
    rcases hw with rfl | rfl | rfl
    · go_enter Try.func57, Try.ntmps57
      go_wp2_with (go_at_call 44; refine (fault_any a cap xs k _ hr hml).mono ?_; rintro e w' ⟨rfl, rfl⟩)
      go_ret2
      exact ⟨rfl, Below.refl _ _⟩
    · go_enter Try.func57, Try.ntmps57
      go_wp2_with (go_at_call 44; refine (fault_any a cap xs k _ hr hml).mono ?_; rintro e w' ⟨rfl, rfl⟩)
      go_ret2
      exact ⟨rfl, Below.refl _ _⟩
    · go_enter Try.func57, Try.ntmps57
      go_wp2_with (go_at_call 44; refine (fault_any a cap xs k _ hr hml).mono ?_; rintro e w' ⟨rfl, rfl⟩)
      go_ret2
      exact ⟨rfl, Below.refl _ _⟩

theorem Own.room {w : World} {g n : Nat} {xs : List Int} (h : Own w g xs) (hn : xs.length = n) (hl : n ≤ maxLen) : OwnC w g n xs :=
  ⟨[], by rw [List.append_nil]; exact h.v, by simpa using hn, hl⟩

theorem answer_of {w w1 w2 : World} {g g' c : Nat} {xs L : List Int} {z : Int} (hL : Ord xs L) (hml : xs.length ≤ maxLen) (hg : w.heap.size ≤ g) (ho : OwnC w1 g c L) (hb1 : Below w.heap.size w w1) (hg' : w1.heap.size ≤ g') (ho' : Own w2 g' (shared xs L)) (hb2 : Below w1.heap.size w1 w2) (o : Obj)
    (h0 : (w2.alloc o).cell? ⟨w2.heap.size, 0, none⟩ = some (.slice (some ⟨g, 0, none⟩) xs.length c)) (h1 : (w2.alloc o).cell? ⟨w2.heap.size, 1, none⟩ = some (.slice (some ⟨g', 0, none⟩) xs.length xs.length)) (h2 : (w2.alloc o).cell? ⟨w2.heap.size, 2, none⟩ = some (.int .i64 z)) :
    AnswerZ w (w2.alloc o) w2.heap.size (.slice (some ⟨g, 0, none⟩) xs.length c) (.slice (some ⟨g', 0, none⟩) xs.length xs.length) xs L z := by
  have hlt1 := ho.lt
  have hlt2 := ho'.lt
  have hs1 := hb1.size
  have hs2 := hb2.size
  refine ⟨hL, h0, h1, h2, ?_, ?_, ?_, ?_, ?_, ?_⟩
  · exact ((ho.below hb2 hlt1).alloc o).owns hg (OrdTo.length hL)
  · exact owns_of_own (ho'.alloc o) (by omega) ((shared_length xs L).trans (OrdTo.length hL)) hml
  · simp; omega
  · right; intro h; simp [Value.ownBlock] at h; omega
  · constructor
    · intro h; simp [Value.ownBlock] at h; omega
    · intro h; simp [Value.ownBlock] at h; omega
  · exact (hb1.trans (hb2.mono hs1)).alloc (by omega) o

/-- The work of the ways, as the program does them. -/
def zk (xs : List Int) (way : Int) : Int := if way = 1 then (levels xs : Int) else if way = 2 then ((tp xs).length : Int) else rounds xs

set_option maxHeartbeats 1600000 in
theorem sortBy_any (a : Option Addr) (cap : Nat) (xs : List Int) (way : Int) (w : World) (hr : Rd w a xs) (hl : xs.length ≤ 96) (hcap : xs.length ≤ cap) (h0 : ∀ x ∈ xs, 0 ≤ x) :
    Calls Try.prog 75 #[.slice a xs.length cap, .int .i64 way] w fun e w' => ∃ g c L, Ord xs L ∧ e = .returned (.tuple #[.slice (some ⟨g, 0, none⟩) xs.length c, .int .i64 (zk xs way)]) ∧ w.heap.size ≤ g ∧ OwnC w' g c L ∧ Below w.heap.size w w' := by
  have hml : xs.length ≤ maxLen := by unfold maxLen; omega
  by_cases h1 : way = 1
  · have hb : (way == 1) = true := by simp [h1]
    have HZ : Hid (zk xs way = levels xs) := if_pos h1
    have H0 := Hid.mk' h0
    clear h1 h0
    go_enter Try.func75, Try.ntmps75
    go_wp2_with fail
    refine (marksSort_any _ xs rfl a _ _ _ hr rfl (by omega) H0.out).mono ?_
    rintro e w1 ⟨g, L, hL, rfl, hg, ho, hb1⟩
    have HL := Hid.mk' hL
    clear hL
    have hs1 := hb1.size
    go_wp2
    go_quiet (fail)
    go_wp2
    go_ret2
    exact ⟨g, _, L, HL.out, by rw [HZ.out]; rfl, hg, (((ho.room (OrdTo.length HL.out) hml).alloc _).drewN _), below_drewN (hb1.alloc hs1 _) _⟩
  · by_cases h2 : way = 2
    · have hb : (way == 1) = false := by simp [h1]
      have hb2 : (way == 2) = true := by simp [h2]
      have HZ : Hid (zk xs way = ((tp xs).length : Int)) := by unfold zk Hid; rw [if_neg h1, if_pos h2]
      have H0 := Hid.mk' h0
      clear h1 h0 h2
      go_enter Try.func75, Try.ntmps75
      go_wp2_with fail
      refine (turnsSort_any _ _ xs _ hr (by omega) hcap H0.out).mono ?_
      rintro e w1 ⟨g, c, L, hL, rfl, hg, ho, hb1⟩
      have HL := Hid.mk' hL
      clear hL
      have hs1 := hb1.size
      go_wp2
      go_quiet (fail)
      go_wp2
      go_ret2
      exact ⟨g, _, L, HL.out, by rw [HZ.out, ← oT_length HL.out]; rfl, hg, ((ho.alloc _).drewN _), below_drewN (hb1.alloc hs1 _) _⟩
    · have hb : (way == 1) = false := by simp [h1]
      have hb2 : (way == 2) = false := by simp [h2]
      have HZ : Hid (zk xs way = rounds xs) := by unfold zk Hid; rw [if_neg h1, if_neg h2]
      have H0 := Hid.mk' h0
      clear h1 h0 h2
      go_enter Try.func75, Try.ntmps75
      go_wp2_with fail
      refine (ranksSort_any _ _ xs _ hr hl hcap).mono ?_
      rintro e w1 ⟨g, L, hL, rfl, hg, ho, hb1⟩
      have HL := Hid.mk' hL
      clear hL
      have hs1 := hb1.size
      go_wp2
      go_quiet (fail)
      go_wp2
      go_ret2
      exact ⟨g, _, L, HL.out, by rw [HZ.out]; rfl, hg, (((ho.room (OrdTo.length HL.out) hml).alloc _).drewN _), below_drewN (hb1.alloc hs1 _) _⟩

set_option maxHeartbeats 1600000 in
set_option maxRecDepth 100000 in
theorem buildAll (a : Option Addr) (cap : Nat) (xs : List Int) (k way bY : Int) (c : Bool) (w : World) (hr : Rd w a xs) (hcap : xs.length ≤ cap) (hs : scanE xs k = 0) (hw : way = 0 ∨ way = 1 ∨ way = 2) (hby : bY = 0 ∨ bY = 1) :
    Calls Try.prog 57 #[.slice a xs.length cap, .int .i64 k, .int .i64 way, .int .i64 bY, .bool c] w fun e w' => ∃ gp v v' L, e = .returned (.tuple #[.pointer (some ⟨gp, 0, none⟩), .int .i64 0]) ∧ AnswerZ w w' gp v v' xs L (zk xs way) := by
  have hl := (scan_zero hs).1
  have H0 := Hid.mk' (scan_zero hs).2.1
  have hml : xs.length ≤ maxLen := by unfold maxLen; omega
  have hb : (scanE xs k != 0) = false := by simpa using hs
  clear hs
  rcases hw with rfl | rfl | rfl <;> rcases hby with rfl | rfl <;> (
    go_enter Try.func57, Try.ntmps57
    go_wp2_with (go_at_call 44; refine (fault_any a cap xs k _ hr hml).mono ?_; rintro e w' ⟨rfl, rfl⟩)
    refine (sortBy_any _ _ xs _ _ hr hl hcap H0.out).mono ?_
    rintro e w1 ⟨g, c1, L, hL, rfl, hg, ho, hb1⟩
    have HL := Hid.mk' hL
    clear hL
    have hs1 := hb1.size
    go_wp2_with fail
    refine (sharedBy_any _ _ _ _ xs L _ _ (hr.below hb1) ho.rd (by omega) HL.out).mono ?_
    rintro e w2 ⟨g', rfl, hg', ho', hb2⟩
    go_wp2
    go_ret2
    exact ⟨_, _, _, L, rfl, answer_of HL.out hml hg ho hb1 hg' ho' hb2 _ (by simp) (by simp) (by simp)⟩)

theorem buildOk0 : BuildOk 0 := by
  intro a cap xs k bY c w hr hcap _ hs h1 h2
  refine (buildAll a cap xs k 0 bY c w hr hcap hs (.inl rfl) (by omega)).mono ?_
  rintro e w' ⟨gp, v, v', L, rfl, hA⟩
  exact ⟨gp, v, v', L, rfl, hA⟩

theorem buildOk1 : BuildOk 1 := by
  intro a cap xs k bY c w hr hcap _ hs h1 h2
  refine (buildAll a cap xs k 1 bY c w hr hcap hs (.inr (.inl rfl)) (by omega)).mono ?_
  rintro e w' ⟨gp, v, v', L, rfl, hA⟩
  exact ⟨gp, v, v', L, rfl, hA⟩

theorem buildOk2 : BuildOk 2 := by
  intro a cap xs k bY c w hr hcap _ hs h1 h2
  refine (buildAll a cap xs k 2 bY c w hr hcap hs (.inr (.inr rfl)) (by omega)).mono ?_
  rintro e w' ⟨gp, v, v', L, rfl, hA⟩
  refine ⟨gp, v, v', L, rfl, ?_⟩
  have e : zk xs 2 = wk xs L 2 := by
    have h := oT_length hA.1
    show ((tp xs).length : Int) = ((turnsTo xs L xs.length).length : Int)
    unfold oT at h
    rw [h]
  unfold Answer
  rw [← e]
  exact hA

theorem buildOks : ∀ k : Nat, k < 3 → BuildOk k
  | 0, _ => buildOk0
  | 1, _ => buildOk1
  | 2, _ => buildOk2
  | k + 3, h => by omega

theorem buildAnys (n : Nat) (hn : n < 3) : BuildAny n := by
  intro a cap xs k bY c w hr hcap _ hs h1 h2
  refine (buildAll a cap xs k n bY c w hr hcap hs (by omega) (by omega)).mono ?_
  rintro e w' ⟨gp, v, v', L, rfl, hA⟩
  exact ⟨gp, v, v', L, _, rfl, hA⟩

end Go.Proofs.Ytdhehffdddbmbaa
