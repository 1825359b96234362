/-
  KeepTold2: what Told asks of the two checks, and the world it writes into.
-/
import Derived.Test.YtdhehffdddbmbabKeepTold
import Derived.Test.YtdhehffdddbmbabRest
namespace Go.Proofs.Ytdhehffdddbmbab
open Go.RowKit

theorem checkOrder_is (a a' : Option Addr) (cap cap' len len' : Nat) (xs os : List Int) (w : World) (hr : Rd w a xs) (hr' : Rd w a' os) (hl : xs.length ≤ 1073741824) (hl' : os.length ≤ 1073741824) (hcap : xs.length ≤ cap) (h : xs.length = len) (h' : os.length = len') (v : Bool) (hv : Told xs os ↔ v = true) :
    Calls Try.prog 15 #[.slice a len cap, .slice a' len' cap'] w fun e w' => e = .returned (.bool v) ∧ ∃ q, w' = w.drewN q := by
  subst h; subst h'
  refine (checkOrder_any a a' cap cap' xs os w hr hr' hl hl' hcap).mono ?_
  rintro e w' ⟨b, rfl, hb, hw⟩
  exact ⟨ret_bool (Bool.eq_iff_iff.2 (hb.trans hv)), hw⟩
theorem checkShared_is (a a' a2 : Option Addr) (cap cap' cap2 len len' len2 : Nat) (xs os ss : List Int) (w : World) (hr : Rd w a xs) (hr' : Rd w a' os) (hr2 : Rd w a2 ss) (hl : xs.length ≤ 1073741824) (hl' : os.length ≤ 1073741824) (hl2 : ss.length ≤ 1073741824) (hcap : xs.length ≤ cap) (h : xs.length = len) (h' : os.length = len') (h2 : ss.length = len2) (v : Bool) (hv : (Told xs os ∧ shared xs os = ss) ↔ v = true) :
    Calls Try.prog 16 #[.slice a len cap, .slice a' len' cap', .slice a2 len2 cap2] w fun e w' => e = .returned (.bool v) ∧ Below w.heap.size w w' := by
  subst h; subst h'; subst h2
  refine (checkShared_any a a' a2 cap cap' cap2 xs os ss w hr hr' hr2 hl hl' hl2 hcap).mono ?_
  rintro e w' ⟨b, rfl, hb, hw⟩
  exact ⟨ret_bool (Bool.eq_iff_iff.2 (hb.trans hv)), hw⟩

theorem own_alloc1 (w : World) (z : Int) : Own (w.alloc (Obj.cells #[.int .i64 z] 3)) w.heap.size [z] := by
  unfold Own World.alloc
  simp

theorem rd_other {v : World} {T : Option Addr} {ts : List Int} {g i : Nat} (h : Rd v T ts) (hn : ∀ b o, T = some ⟨b, o, none⟩ → b ≠ g) (u : Value) : Rd (v.setCell ⟨g, i, none⟩ u) T ts := by
  intro hx
  obtain ⟨b, o, rfl, hb, hc⟩ := h hx
  exact ⟨b, o, rfl, by simpa [World.setCell] using hb, fun k hk => (cell_set _ (hn b o rfl)).trans (hc k hk)⟩

/-- The world of Told: behind the pointer the two lists that it writes into, and the text. -/
structure TK (w0 v : World) (gp gA gS cA cS n : Nat) (T : Option Addr) (ts LL SS : List Int) : Prop where
  at0 : v.cell? ⟨gp, 0, none⟩ = some (.slice (some ⟨gA, 0, none⟩) n cA)
  at1 : v.cell? ⟨gp, 1, none⟩ = some (.slice (some ⟨gS, 0, none⟩) n cS)
  wA : Wr v gA LL
  wS : Wr v gS SS
  rd : Rd v T ts
  bel : Below w0.heap.size w0 v
  ptr : gp < v.heap.size
  lo : w0.heap.size ≤ gA ∧ w0.heap.size ≤ gS
  ne : gp ≠ gA ∧ gp ≠ gS ∧ gA ≠ gS
  neT : ∀ b o, T = some ⟨b, o, none⟩ → b ≠ gA ∧ b ≠ gS

section
variable {w0 v v' : World} {gp gA gS cA cS n : Nat} {T : Option Addr} {ts LL SS : List Int}
theorem TK.next (h : TK w0 v gp gA gS cA cS n T ts LL SS) (hb : Below v.heap.size v v') : TK w0 v' gp gA gS cA cS n T ts LL SS :=
  ⟨(hb.cell (p := ⟨gp, 0, none⟩) h.ptr).trans h.at0, (hb.cell (p := ⟨gp, 1, none⟩) h.ptr).trans h.at1, h.wA.below hb, h.wS.below hb, h.rd.below hb, h.bel.trans (hb.mono h.bel.size), Nat.lt_of_lt_of_le h.ptr hb.size, h.lo, h.ne, h.neT⟩
theorem TK.drewN (h : TK w0 v gp gA gS cA cS n T ts LL SS) (q : Nat) : TK w0 (v.drewN q) gp gA gS cA cS n T ts LL SS :=
  h.next (below_drewN (Below.refl _ _) q)
theorem TK.setA (h : TK w0 v gp gA gS cA cS n T ts LL SS) (i : Nat) (z : Int) : TK w0 (v.setCell ⟨gA, i, none⟩ (.int .i64 z)) gp gA gS cA cS n T ts (LL.set i z) SS :=
  ⟨(cell_set _ h.ne.1).trans h.at0, (cell_set _ h.ne.1).trans h.at1, h.wA.set i z, h.wS.other (by exact h.ne.2.2) _, rd_other h.rd (fun b o e => (h.neT b o e).1) _, h.bel.setCell h.lo.1 _, by simpa [World.setCell] using h.ptr, h.lo, h.ne, h.neT⟩
theorem TK.setS (h : TK w0 v gp gA gS cA cS n T ts LL SS) (i : Nat) (z : Int) : TK w0 (v.setCell ⟨gS, i, none⟩ (.int .i64 z)) gp gA gS cA cS n T ts LL (SS.set i z) :=
  ⟨(cell_set _ h.ne.2.1).trans h.at0, (cell_set _ h.ne.2.1).trans h.at1, h.wA.other (by exact h.ne.2.2.symm) _, h.wS.set i z, rd_other h.rd (fun b o e => (h.neT b o e).2) _, h.bel.setCell h.lo.2 _, by simpa [World.setCell] using h.ptr, h.lo, h.ne, h.neT⟩
end

/-- Behind the store of what was read: the pointer's cell and the cell that was read hold what they held. -/
theorem keep_swap {v : World} {gp gA x y : Nat} {u : Value} {z : Int} {xs : List Int} (h0 : v.cell? ⟨gp, 0, none⟩ = some u) (hne : gp ≠ gA) (hw : Wr v gA xs) (hy : y < xs.length) (hz : xs.getD y 0 = z) :
    (v.setCell ⟨gA, x, none⟩ (.int .i64 z)).cell? ⟨gp, 0, none⟩ = some u ∧ (v.setCell ⟨gA, x, none⟩ (.int .i64 z)).cell? ⟨gA, y, none⟩ = some (.int .i64 z) := by
  refine ⟨(cell_set _ hne).trans h0, ?_⟩
  have h := (hw.set x z).cell (i := y) (by simpa using hy)
  have e : (xs.set x z).getD y 0 = z := by
    by_cases e : x = y
    · subst e; simp [List.getD, hy]
    · rw [List.getD, List.getElem?_set_ne e]; exact hz
  rwa [e] at h

/-- What the statement's 'built' leaves, where the text has a symbol. -/
theorem TK.of {w0 w w' : World} {ts L : List Int} {z : Int} {gp : Nat} {v v' : Value} {T : Option Addr} (hA : AnswerZ w w' gp v v' ts L z) (h0 : Below w0.heap.size w0 w) (hT : Rd w T ts) (hn : 0 < ts.length) :
    ∃ gA gS cA cS, v = .slice (some ⟨gA, 0, none⟩) ts.length cA ∧ v' = .slice (some ⟨gS, 0, none⟩) ts.length cS ∧ TK w0 w' gp gA gS cA cS ts.length T ts L (shared ts L) := by
  obtain ⟨gA, cA, rfl, hwA, _, _, hgA⟩ := wr_of_owns hA.own hn
  obtain ⟨gS, cS, rfl, hwS, _, _, hgS⟩ := wr_of_owns hA.own' hn
  have hs := h0.size
  refine ⟨gA, gS, cA, cS, rfl, rfl, ⟨hA.at0, hA.at1, hwA, hwS, hT.below hA.below, h0.trans (hA.below.mono hs), hA.ptr.2, ⟨by omega, by omega⟩, ⟨?_, ?_, ?_⟩, ?_⟩⟩
  · intro h; exact hA.apartP.1 (by rw [h]; rfl)
  · intro h; exact hA.apartP.2 (by rw [h]; rfl)
  · intro h
    rcases hA.apart with h1 | h1
    · simp [Value.ownBlock] at h1
    · exact h1 (by rw [h]; rfl)
  · intro b o e
    obtain ⟨b', o', e', hb, _⟩ := hT (by rintro rfl; simp at hn)
    rw [e] at e'
    cases e'
    exact ⟨by omega, by omega⟩

end Go.Proofs.Ytdhehffdddbmbab
