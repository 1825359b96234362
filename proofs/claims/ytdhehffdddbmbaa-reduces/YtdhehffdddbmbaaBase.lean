/-
  Base: what a slice of ints reads as, and rows that the call itself made. No walk here.
-/
import Derived.Test.YtdhehffdddbmbaaRows
import Derived.WalkKit
import Derived.WalkSmall
import Derived.Deep.Draws
import Derived.Deep.QuietTactic
import Derived.BigQuiet
namespace Go.Proofs.Ytdhehffdddbmbaa
open Go.RowKit

/-- A slice value that begins at 'a' reads as 'xs' in the world 'w'. Of an empty one nothing is asked. -/
def Rd (w : World) (a : Option Addr) (xs : List Int) : Prop :=
  xs ≠ [] → ∃ b off, a = some ⟨b, off, none⟩ ∧ b < w.heap.size ∧ ∀ i, i < xs.length → w.cell? ⟨b, off + i, none⟩ = some (.int .i64 (xs.getD i 0))

theorem Rd.nil (w : World) (a : Option Addr) : Rd w a [] := fun h => absurd rfl h

theorem Rd.below {w w' : World} {a : Option Addr} {xs : List Int} (h : Rd w a xs) (hb : Below w.heap.size w w') : Rd w' a xs := by
  intro hx
  obtain ⟨b, off, rfl, hlt, hc⟩ := h hx
  exact ⟨b, off, rfl, Nat.lt_of_lt_of_le hlt hb.size, fun i hi => (hb.cell (p := ⟨b, off + i, none⟩) hlt).trans (hc i hi)⟩

theorem Rd.take {w : World} {a : Option Addr} {xs : List Int} (h : Rd w a xs) (n : Nat) : Rd w a (xs.take n) := by
  intro hx
  have hne : xs ≠ [] := by rintro rfl; simp at hx
  obtain ⟨b, off, rfl, hlt, hc⟩ := h hne
  refine ⟨b, off, rfl, hlt, fun i hi => ?_⟩
  simp at hi
  rw [hc i (by omega)]
  simp [List.getD, show i < n by omega]

/-- What begins 'n' places further on. -/
theorem Rd.drop {w : World} {b off : Nat} {xs : List Int} (h : Rd w (some ⟨b, off, none⟩) xs) (n : Nat) : Rd w (some ⟨b, off + n, none⟩) (xs.drop n) := by
  intro hx
  have hn : n < xs.length := by
    rcases Nat.lt_or_ge n xs.length with h1 | h1
    · exact h1
    · exact absurd (List.drop_eq_nil_of_le h1) hx
  have hne : xs ≠ [] := by rintro rfl; simp at hn
  obtain ⟨b', off', he, hlt, hc⟩ := h hne
  cases he
  refine ⟨b, off + n, rfl, hlt, fun i hi => ?_⟩
  simp at hi
  rw [show off + n + i = off + (n + i) by omega, hc (n + i) (by omega)]
  simp [List.getD]

/-- 'xs[n:]' as the model gives it: at the very end of the room the address stays. -/
theorem Rd.cut {w : World} {b off : Nat} {xs : List Int} (h : Rd w (some ⟨b, off, none⟩) xs) (n cap : Nat) (hc : xs.length ≤ cap) : Rd w (if cap = n then some ⟨b, off, none⟩ else some ⟨b, off + n, none⟩) (xs.drop n) := by
  split
  · rw [List.drop_eq_nil_of_le (by omega)]; exact Rd.nil _ _
  · exact h.drop n

theorem Rd.cell {w : World} {b off : Nat} {xs : List Int} (h : Rd w (some ⟨b, off, none⟩) xs) {i : Nat} (hi : i < xs.length) : w.cell? ⟨b, off + i, none⟩ = some (.int .i64 (xs.getD i 0)) := by
  have hne : xs ≠ [] := by rintro rfl; simp at hi
  obtain ⟨b', off', he, _, hc⟩ := h hne
  cases he
  exact hc i hi

theorem Rd.at {w : World} {a : Option Addr} {xs : List Int} (h : Rd w a xs) {i : Nat} (hi : i < xs.length) : ∃ b off, a = some ⟨b, off, none⟩ ∧ b < w.heap.size ∧ ∀ j, j < xs.length → w.cell? ⟨b, off + j, none⟩ = some (.int .i64 (xs.getD j 0)) :=
  h (by rintro rfl; simp at hi)

/-- Block 'g' is a row of the call's own that holds just 'xs'. -/
def Own (w : World) (g : Nat) (xs : List Int) : Prop := w.heap[g]? = some (.cells (xs.map (Value.int .i64)).toArray 3 (0, 0))

theorem Own.lt {w : World} {g : Nat} {xs : List Int} (h : Own w g xs) : g < w.heap.size := (Array.getElem?_eq_some_iff.1 h).1

theorem Own.cell {w : World} {g : Nat} {xs : List Int} (h : Own w g xs) {i : Nat} (hi : i < xs.length) : w.cell? ⟨g, i, none⟩ = some (.int .i64 (xs.getD i 0)) := by
  unfold Own at h
  simp [World.cell?, h, List.getD, hi]

theorem Own.frozen {w : World} {g : Nat} {xs : List Int} (h : Own w g xs) (i : Nat) : w.frozen? ⟨g, i, none⟩ = false := by
  unfold Own at h
  simp [World.frozen?, h]

theorem Own.rd {w : World} {g : Nat} {xs : List Int} (h : Own w g xs) : Rd w (some ⟨g, 0, none⟩) xs :=
  fun _ => ⟨g, 0, rfl, h.lt, fun i hi => by rw [Nat.zero_add]; exact h.cell hi⟩

theorem Own.set {w : World} {g : Nat} {xs : List Int} (h : Own w g xs) (i : Nat) (v : Int) : Own (w.setCell ⟨g, i, none⟩ (.int .i64 v)) g (xs.set i v) := by
  unfold Own at h ⊢
  simp [World.setCell, Array.getElem?_modify, h]

theorem Own.below {w w' : World} {g : Nat} {xs : List Int} (h : Own w g xs) {B : Nat} (hb : Below B w w') (hg : g < B) : Own w' g xs := by
  unfold Own at h ⊢
  rw [hb.block g hg]; exact h

theorem Own.other {w : World} {g : Nat} {xs : List Int} (h : Own w g xs) {p : Addr} (hp : p.block ≠ g) (u : Value) : Own (w.setCell p u) g xs := by
  unfold Own at h ⊢
  rw [Below.heap_setCell _ _ _ _ (Ne.symm hp)]; exact h

theorem Own.alloc {w : World} {g : Nat} {xs : List Int} (h : Own w g xs) (o : Obj) : Own (w.alloc o) g xs := by
  unfold Own at h ⊢
  rw [Below.heap_alloc _ _ _ (Array.getElem?_eq_some_iff.1 h).1]; exact h

theorem Own.drew {w : World} {g : Nat} {xs : List Int} (h : Own w g xs) : Own w.drew g xs := h

/-- Block 'g' is a row of the call's own, of type t, that holds just these cells. -/
def OwnV (w : World) (g : Nat) (t : TypeId) (cs : List Value) : Prop := w.heap[g]? = some (.cells cs.toArray t (0, 0))

theorem Own.v {w : World} {g : Nat} {xs : List Int} (h : Own w g xs) : OwnV w g 3 (xs.map (Value.int .i64)) := h
theorem OwnV.own {w : World} {g : Nat} {xs : List Int} (h : OwnV w g 3 (xs.map (Value.int .i64))) : Own w g xs := h

section
variable {w w' : World} {g : Nat} {t : TypeId} {cs : List Value}
theorem OwnV.lt (h : OwnV w g t cs) : g < w.heap.size := (Array.getElem?_eq_some_iff.1 h).1
theorem OwnV.cell (h : OwnV w g t cs) {i : Nat} (hi : i < cs.length) : w.cell? ⟨g, i, none⟩ = some cs[i] := by
  unfold OwnV at h
  simp [World.cell?, h, hi]
theorem OwnV.frozen (h : OwnV w g t cs) (i : Nat) : w.frozen? ⟨g, i, none⟩ = false := by
  unfold OwnV at h
  simp [World.frozen?, h]
theorem OwnV.set (h : OwnV w g t cs) (i : Nat) (u : Value) : OwnV (w.setCell ⟨g, i, none⟩ u) g t (cs.set i u) := by
  unfold OwnV at h ⊢
  simp [World.setCell, Array.getElem?_modify, h]
theorem OwnV.other (h : OwnV w g t cs) {p : Addr} (hp : p.block ≠ g) (u : Value) : OwnV (w.setCell p u) g t cs := by
  unfold OwnV at h ⊢
  rw [Below.heap_setCell _ _ _ _ (Ne.symm hp)]; exact h
theorem OwnV.below (h : OwnV w g t cs) {B : Nat} (hb : Below B w w') (hg : g < B) : OwnV w' g t cs := by
  unfold OwnV at h ⊢
  rw [hb.block g hg]; exact h
theorem OwnV.kept (h : OwnV w g t cs) {r : Option Nat} (hb : w.grownBy w' r) (hg : some g ≠ r) : OwnV w' g t cs := by
  have hl := h.lt
  unfold OwnV at h ⊢
  rw [hb.block g hl hg]; exact h
theorem OwnV.alloc (h : OwnV w g t cs) (o : Obj) : OwnV (w.alloc o) g t cs := by
  unfold OwnV at h ⊢
  rw [Below.heap_alloc _ _ _ (Array.getElem?_eq_some_iff.1 h).1]; exact h
theorem OwnV.drewN (h : OwnV w g t cs) (q : Nat) : OwnV (w.drewN q) g t cs := h
end

theorem Own.kept {w w' : World} {g : Nat} {xs : List Int} (h : Own w g xs) {r : Option Nat} (hb : w.grownBy w' r) (hg : some g ≠ r) : Own w' g xs := OwnV.kept h.v hb hg
theorem Own.drewN {w : World} {g : Nat} {xs : List Int} (h : Own w g xs) (q : Nat) : Own (w.drewN q) g xs := h

theorem grownBy_trans {a b c : World} {r : Option Nat} (h : a.grownBy b r) (k : b.grownBy c r) : a.grownBy c r :=
  ⟨k.os.trans h.os, k.tape.trans h.tape, k.output.trans h.output, Nat.le_trans h.size k.size, fun i hi hne => (k.block i (Nat.lt_of_lt_of_le hi h.size) hne).trans (h.block i hi hne)⟩
theorem grownBy_setCell {a w : World} {g : Nat} (h : a.grownBy w (some g)) (i : Nat) (u : Value) : a.grownBy (w.setCell ⟨g, i, none⟩ u) (some g) :=
  grownBy_trans h ⟨rfl, rfl, rfl, by simp [World.setCell], fun k _ hne => Below.heap_setCell _ _ _ _ (fun e => hne (by rw [e]))⟩
theorem grownBy_below {a w : World} {g : Nat} (h : a.grownBy w (some g)) : Below (min g a.heap.size) a w :=
  ⟨h.os, h.tape, h.output, h.size, fun k hk => h.block k (by omega) (fun e => by cases e; omega)⟩

/-- What 'make' leaves. -/
theorem Own.of_row {w : World} {g n : Nat} {xs : List Int} (h : w.ownsRow g 3 1 (.slice (some ⟨g, 0, none⟩) n n) n (xs.map (Value.int .i64))) : Own w g xs := by
  obtain ⟨hl, h2⟩ := h
  rcases h2 with ⟨hv, _⟩ | ⟨g', cap, cur, hv, _, hh, _, _, hsz, ht⟩
  · cases hv
  · cases hv
    simp at hsz ht hl
    unfold Own
    rw [hh]
    rw [List.take_of_length_le (by simp; omega)] at ht
    congr 1
    rw [← ht]
    

theorem bcell {W w1 : World} (hb : Below W.heap.size W w1) : (∀ b o, b < W.heap.size → w1.cell? ⟨b, o, none⟩ = W.cell? ⟨b, o, none⟩) ∧ (∀ b o, b < W.heap.size → w1.frozen? ⟨b, o, none⟩ = W.frozen? ⟨b, o, none⟩) :=
  ⟨fun b o h => hb.cell (p := ⟨b, o, none⟩) h, fun b o h => hb.frozen (p := ⟨b, o, none⟩) h⟩

theorem Hid.mk' {p : Prop} (h : p) : Hid p := h

theorem qt2 (w : World) (q n : Nat) : ∃ q', (w.drewN q).drewN n = w.drewN q' := ⟨q + n, by simp⟩

theorem Try.info3 : (Try.prog.info? 3).map (fun i => (i.zero, i.size, i.bytes)) = some (some (.int .i64 0), 1, 8) := by kernel_rfl

theorem ret_int {k : IntKind} {a b : Int} (h : a = b) : Ending.returned (.int k a) = .returned (.int k b) := by rw [h]
theorem ret_ints {k k' : IntKind} {a b c d : Int} (h : a = b) (h2 : c = d) : Ending.returned (.tuple #[.int k a, .int k' c]) = .returned (.tuple #[.int k b, .int k' d]) := by rw [h, h2]
theorem ret_bool {a b : Bool} (h : a = b) : Ending.returned (.bool a) = .returned (.bool b) := by rw [h]

end Go.Proofs.Ytdhehffdddbmbaa
