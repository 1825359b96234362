/-
  KeepAgree: what Agree asks of Build, over a text whose symbols were drawn apart.
-/
import Derived.Test.YtdhehffdddbmbabKeep2
import Derived.Test.YtdhehffdddbmbabMAgree
namespace Go.Proofs.Ytdhehffdddbmbab
open Go.RowKit

theorem ksame_len (a a' : Option Addr) (len len' cap cap' : Nat) (xs : List Int) (w : World) (hr : Rd w a xs) (hr' : Rd w a' xs) (hl : xs.length ≤ maxLen) (h : xs.length = len) (h' : xs.length = len') :
    Calls Try.prog 14 #[.slice a len cap, .slice a' len' cap'] w fun e w' => e = .returned (.bool true) ∧ ∃ q, w' = w.drewN q := by
  subst h; subst h'
  refine (ksame_any a a' cap cap' xs xs w hr hr' hl hl).mono ?_
  rintro e w' ⟨rfl, h⟩
  exact ⟨ret_bool (by simp), h⟩

theorem far_scan {gg aa : Nat} (hg : gg < 1000) {ts : List Int} (h : scanE ts 60 = 0) : scanE (ts.map (far gg aa)) 9223372036854775807 = 0 := by
  obtain ⟨h1, h2, h3⟩ := scan_zero h
  have hin : ¬ firstOut (ts.map (far gg aa)) 9223372036854775807 < (ts.map (far gg aa)).length := by
    intro hlt
    obtain ⟨x, hx, hno⟩ := firstOut_out hlt
    obtain ⟨y, hy, rfl⟩ := List.mem_map.1 hx
    exact hno (far_range hg (h2 y hy) (h3 y hy))
  unfold scanE
  have hlen : ¬ 96 < (ts.map (far gg aa)).length := by simp; omega
  simp only [if_neg hlen, if_neg hin]
  simp
theorem far_list {gg aa : Nat} {ts ds : List Int} {n : Nat} (h : Cnt (fun k => far gg aa (ts.getD k 0)) ts.length ds n 0) (hn : ts.length ≤ n) : ds = ts.map (far gg aa) := by
  rw [h.done hn]
  apply List.ext_getElem?
  intro i
  rcases Nat.lt_or_ge i ts.length with hi | hi
  · simp [hi, List.getD]
  · rw [List.getElem?_eq_none (by simpa using hi), List.getElem?_eq_none (by simpa using hi)]
theorem far_ord (gg aa : Nat) {ts L : List Int} (h : Ord ts L) : Ord (ts.map (far gg aa)) L := ord_map (S := fun _ => True) (fun x y _ _ h => far_mono gg aa x y h) (fun _ _ => trivial) h
theorem far_shared (gg aa : Nat) (ts L : List Int) : shared (ts.map (far gg aa)) L = shared ts L := shared_map (S := fun _ => True) (fun x y _ _ h => far_mono gg aa x y h) (fun _ _ => trivial) L

/-- What Build hands on over the text that was drawn apart. -/
def KF (W : World) (ts L : List Int) (e : Ending) (u : World) : Prop := ∃ gq A cA S cS, e = .returned (.tuple #[.pointer (some ⟨gq, 0, none⟩), .int .i64 0]) ∧ u.cell? ⟨gq, 0, none⟩ = some (.slice A ts.length cA) ∧ u.cell? ⟨gq, 1, none⟩ = some (.slice S ts.length cS) ∧ gq < u.heap.size ∧ Rd u A L ∧ Rd u S (shared ts L) ∧ Below W.heap.size W u

theorem far_build (hok : ∀ k : Nat, k < 3 → BuildAny k) {gg aa : Nat} (hg : gg < 1000) {ts L : List Int} (h : scanE ts 60 = 0) (hO : Ord ts L) (n m : Nat) (hn : n < 3) (hm : m < 2) (c : Bool) (g : Nat) (W : World) (ho : Own W g (ts.map (far gg aa))) :
    Calls Try.prog 13 #[.slice (some ⟨g, 0, none⟩) ts.length ts.length, .int .i64 9223372036854775807, .int .i64 n, .int .i64 m, .bool c] W fun e u => KF W ts L e u := by
  have hl : (ts.map (far gg aa)).length = ts.length := by simp
  have h96 := (scan_zero h).1
  have hb := hok n hn (some ⟨g, 0, none⟩) ts.length (ts.map (far gg aa)) 9223372036854775807 m c W ho.rd (by omega) (by omega) (far_scan hg h) (by omega) (by omega)
  rw [hl] at hb
  refine hb.mono ?_
  rintro e u ⟨gq, v, v', L', z, rfl, hA⟩
  obtain rfl : L' = L := hA.ord.unique (far_ord gg aa hO)
  have h1 := hA.own
  have h2 := hA.own'
  rw [hl] at h1 h2
  rw [far_shared] at h2
  obtain ⟨A, cA, rfl, hrA, -, -, -⟩ := owns_slice h1
  obtain ⟨S, cS, rfl, hrS, -, -, -⟩ := owns_slice h2
  exact ⟨gq, A, cA, S, cS, rfl, hA.at0, hA.at1, hA.ptr.2, hrA, hrS, hA.below⟩

end Go.Proofs.Ytdhehffdddbmbab
