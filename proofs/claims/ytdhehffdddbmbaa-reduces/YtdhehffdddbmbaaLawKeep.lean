/-
  LawKeep: what a statement keeps in sight while it asks on.
-/
import Derived.Test.YtdhehffdddbmbaaLaw
import Derived.Test.YtdhehffdddbmbaaMine
import Derived.Test.YtdhehffdddbmbaaRefOrder
namespace Go.Proofs.Ytdhehffdddbmbaa
open Go.RowKit

/-- The text that was lent, and two lists that came out. -/
structure K2 (w v : World) (n : Nat) (A S : Option Addr) (nA nS cA cS : Nat) (xs l l' : List Int) : Prop where
  lent : Own v w.heap.size (xs ++ [77, 77])
  rd : Rd v A l
  rd' : Rd v S l'
  free : FreeV v (.slice A nA cA)
  free' : FreeV v (.slice S nS cS)
  below : Below w.heap.size w v
  size : n ≤ v.heap.size
theorem K2.next {w v v' : World} {n : Nat} {A S : Option Addr} {nA nS cA cS : Nat} {xs l l' : List Int} (h : K2 w v n A S nA nS cA cS xs l l') (hb : Below v.heap.size v v') : K2 w v' n A S nA nS cA cS xs l l' :=
  ⟨h.lent.below hb h.lent.lt, h.rd.below hb, h.rd'.below hb, h.free.below hb, h.free'.below hb, h.below.trans (hb.mono h.below.size), Nat.le_trans h.size hb.size⟩
theorem K2.drewN {w v : World} {n : Nat} {A S : Option Addr} {nA nS cA cS : Nat} {xs l l' : List Int} (h : K2 w v n A S nA nS cA cS xs l l') (q : Nat) : K2 w (v.drewN q) n A S nA nS cA cS xs l l' :=
  h.next (below_drewN (Below.refl _ _) q)
theorem K2.of {w v v' : World} {q : Nat} {n : Nat} {A S : Option Addr} {nA nS cA cS : Nat} {xs l l' : List Int} (h : K2 w v n A S nA nS cA cS xs l l') (e : v' = v.drewN q) : K2 w v' n A S nA nS cA cS xs l l' := by
  rw [e]; exact h.drewN q

/-- Three lists that were lent. -/
structure L3 (w v1 v2 v : World) (xs os ss : List Int) : Prop where
  lent : Own v w.heap.size (xs ++ [77, 77])
  lent' : Own v v1.heap.size (os ++ [77, 77])
  lentS : Own v v2.heap.size (ss ++ [77, 77])
  below : Below w.heap.size w v
theorem L3.next {w v1 v2 v v' : World} {xs os ss : List Int} (h : L3 w v1 v2 v xs os ss) (hb : Below v.heap.size v v') : L3 w v1 v2 v' xs os ss :=
  ⟨h.lent.below hb h.lent.lt, h.lent'.below hb h.lent'.lt, h.lentS.below hb h.lentS.lt, h.below.trans (hb.mono h.below.size)⟩
theorem L3.of {w v1 v2 v v' : World} {q : Nat} {xs os ss : List Int} (h : L3 w v1 v2 v xs os ss) (e : v' = v.drewN q) : L3 w v1 v2 v' xs os ss := by
  rw [e]; exact h.next (below_drewN (Below.refl _ _) q)

end Go.Proofs.Ytdhehffdddbmbaa
