/-
  BuiltLaw: the statement's own 'work'; what Build must answer.
-/
import Derived.Test.YtdhehffdddbmbabLaw
import Derived.Test.YtdhehffdddbmbabMine
import Derived.Test.YtdhehffdddbmbabRefShared
import Derived.Test.YtdhehffdddbmbabRefNames2
import Derived.Deep.RegionHeld3
namespace Go.Proofs.Ytdhehffdddbmbab
open Go.RowKit

/-- P10, P13, P15. -/
def wk (xs L : List Int) (way : Int) : Int := if way = 0 then rounds xs else if way = 1 then (levels xs : Int) else ((turnsTo xs L xs.length).length : Int)

/-- What Build's answer is, where there is no error: behind the pointer the order, what is shared, the work; two lists that share nothing. -/
structure AnswerZ (w w' : World) (gp : Nat) (v v' : Value) (xs L : List Int) (z : Int) : Prop where
  ord : Ord xs L
  at0 : w'.cell? ⟨gp, 0, none⟩ = some v
  at1 : w'.cell? ⟨gp, 1, none⟩ = some v'
  at2 : w'.cell? ⟨gp, 2, none⟩ = some (.int .i64 z)
  own : w'.ownsRow w.heap.size 3 1 v xs.length (L.map (Value.int .i64))
  own' : w'.ownsRow w.heap.size 3 1 v' xs.length ((shared xs L).map (Value.int .i64))
  ptr : w.heap.size ≤ gp ∧ gp < w'.heap.size
  apart : v.ownBlock = none ∨ v.ownBlock ≠ v'.ownBlock
  apartP : some gp ≠ v.ownBlock ∧ some gp ≠ v'.ownBlock
  below : Below w.heap.size w w'

/-- With the work of the way. -/
abbrev Answer (w w' : World) (gp : Nat) (v v' : Value) (xs L : List Int) (way : Int) : Prop := AnswerZ w w' gp v v' xs L (wk xs L way)

def BuildErr : Prop := ∀ (a : Option Addr) (cap : Nat) (xs : List Int) (k way bY : Int) (c : Bool) (w : World), Rd w a xs → xs.length ≤ cap → xs.length ≤ 1073741824 → cap ≤ 9223372036854775807 → scanE xs k ≠ 0 →
    Calls Try.prog 13 #[.slice a xs.length cap, .int .i64 k, .int .i64 way, .int .i64 bY, .bool c] w fun e w' => e = .returned (.tuple #[.pointer none, .int .i64 (scanE xs k)]) ∧ Below w.heap.size w w'
def BuildOpt : Prop := ∀ (a : Option Addr) (cap : Nat) (xs : List Int) (k way bY : Int) (c : Bool) (w : World), Rd w a xs → xs.length ≤ cap → cap ≤ 9223372036854775807 → scanE xs k = 0 → (way < 0 ∨ 2 < way ∨ bY < 0 ∨ 1 < bY) →
    Calls Try.prog 13 #[.slice a xs.length cap, .int .i64 k, .int .i64 way, .int .i64 bY, .bool c] w fun e w' => e = .returned (.tuple #[.pointer none, .int .i64 4]) ∧ Below w.heap.size w w'
def BuildOk (way : Int) : Prop := ∀ (a : Option Addr) (cap : Nat) (xs : List Int) (k bY : Int) (c : Bool) (w : World), Rd w a xs → xs.length ≤ cap → cap ≤ 9223372036854775807 → scanE xs k = 0 → 0 ≤ bY → bY ≤ 1 →
    Calls Try.prog 13 #[.slice a xs.length cap, .int .i64 k, .int .i64 way, .int .i64 bY, .bool c] w fun e w' => ∃ gp v v' L, e = .returned (.tuple #[.pointer (some ⟨gp, 0, none⟩), .int .i64 0]) ∧ Answer w w' gp v v' xs L way
/-- Build without an error, whatever its work was. -/
def BuildAny (way : Int) : Prop := ∀ (a : Option Addr) (cap : Nat) (xs : List Int) (k bY : Int) (c : Bool) (w : World), Rd w a xs → xs.length ≤ cap → cap ≤ 9223372036854775807 → scanE xs k = 0 → 0 ≤ bY → bY ≤ 1 →
    Calls Try.prog 13 #[.slice a xs.length cap, .int .i64 k, .int .i64 way, .int .i64 bY, .bool c] w fun e w' => ∃ gp v v' L z, e = .returned (.tuple #[.pointer (some ⟨gp, 0, none⟩), .int .i64 0]) ∧ AnswerZ w w' gp v v' xs L z
theorem BuildOk.any {way : Int} (h : BuildOk way) : BuildAny way := by
  intro a cap xs k bY c w hr hcap hcap' hs h1 h2
  refine (h a cap xs k bY c w hr hcap hcap' hs h1 h2).mono ?_
  rintro e w' ⟨gp, v, v', L, rfl, hA⟩
  exact ⟨gp, v, v', L, _, rfl, hA⟩

theorem cell_only {w w' : World} {v v' : Value} {g o q : Nat} {u : Value} (h : ∀ k, k < (w.drewN q).heap.size → some k ≠ v.ownBlock → some k ≠ v'.ownBlock → w'.heap[k]? = (w.drewN q).heap[k]?) (hg : g < w.heap.size) (hn : some g ≠ v.ownBlock ∧ some g ≠ v'.ownBlock) (hc : w.cell? ⟨g, o, none⟩ = some u) : w'.cell? ⟨g, o, none⟩ = some u :=
  (World.cell?_of_block (w := w) (a := ⟨g, o, none⟩) (h g hg hn.1 hn.2)).trans hc

/-- What the statement keeps in sight while it asks on. -/
structure Kp (w v : World) (gp n : Nat) (A S : Option Addr) (cA cS : Nat) (xs L : List Int) (z : Int) : Prop where
  lent : Own v w.heap.size (xs ++ [77, 77])
  at0 : v.cell? ⟨gp, 0, none⟩ = some (.slice A xs.length cA)
  at1 : v.cell? ⟨gp, 1, none⟩ = some (.slice S xs.length cS)
  at2 : v.cell? ⟨gp, 2, none⟩ = some (.int .i64 z)
  rd : Rd v A L
  rd' : Rd v S (shared xs L)
  free : FreeV v (.slice A xs.length cA)
  free' : FreeV v (.slice S xs.length cS)
  below : Below w.heap.size w v
  size : n ≤ v.heap.size
  ptr : gp < v.heap.size
theorem Kp.next {w v v' : World} {gp n : Nat} {A S : Option Addr} {cA cS : Nat} {xs L : List Int} {z : Int} (h : Kp w v gp n A S cA cS xs L z) (hb : Below v.heap.size v v') : Kp w v' gp n A S cA cS xs L z :=
  ⟨h.lent.below hb h.lent.lt, (hb.cell (p := ⟨gp, 0, none⟩) h.ptr).trans h.at0, (hb.cell (p := ⟨gp, 1, none⟩) h.ptr).trans h.at1, (hb.cell (p := ⟨gp, 2, none⟩) h.ptr).trans h.at2, h.rd.below hb, h.rd'.below hb, h.free.below hb, h.free'.below hb,
    h.below.trans (hb.mono h.below.size), Nat.le_trans h.size hb.size, Nat.lt_of_lt_of_le h.ptr hb.size⟩
theorem Kp.drewN {w v : World} {gp n : Nat} {A S : Option Addr} {cA cS : Nat} {xs L : List Int} {z : Int} (h : Kp w v gp n A S cA cS xs L z) (q : Nat) : Kp w (v.drewN q) gp n A S cA cS xs L z :=
  h.next (below_drewN (Below.refl _ _) q)

end Go.Proofs.Ytdhehffdddbmbab
