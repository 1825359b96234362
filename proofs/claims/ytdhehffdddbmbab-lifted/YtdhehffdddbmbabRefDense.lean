/-
  RefDense: the walks of the document's own Dense and Buckets.
-/
import Derived.Test.YtdhehffdddbmbabDense
namespace Go.Proofs.Ytdhehffdddbmbab
open Go.RowKit

theorem Rd.drewN {w : World} {a : Option Addr} {xs : List Int} (h : Rd w a xs) (q : Nat) : Rd (w.drewN q) a xs := h

theorem cl_cons (x : Int) (l : List Int) (v : Int) : cl (x :: l) v = cl l v + if x < v then 1 else 0 := by simp [cl, List.countP_cons]

/-- How many different numbers of the first n are less than v. -/
def dl (xs : List Int) (n : Nat) (v : Int) : Nat := cl (dis (xs.take n)) v
theorem dl_had {xs : List Int} {n : Nat} (h : n < xs.length) (v : Int) (hm : xs[n] ∈ xs.take n) : dl xs (n + 1) v = dl xs n v := by
  unfold dl; rw [take_snoc h, dis_snoc, if_pos hm]
theorem dl_new {xs : List Int} {n : Nat} (h : n < xs.length) (v : Int) (hm : ¬ xs[n] ∈ xs.take n) : dl xs (n + 1) v = dl xs n v + if xs[n] < v then 1 else 0 := by
  unfold dl; rw [take_snoc h, dis_snoc, if_neg hm, cl_cons]
theorem dl_le (xs : List Int) (n : Nat) (v : Int) : dl xs n v ≤ n := Nat.le_trans (cl_le _ _) (Nat.le_trans (dis_length_le _) (List.length_take_le _ _))
theorem dl_all (xs : List Int) (v : Int) : dl xs xs.length v = cl (dis xs) v := by unfold dl; rw [List.take_length]

theorem alpha_ex (xs : List Int) : ∃ l, Alpha xs l := by
  refine ⟨(dis xs).mergeSort (fun a b => decide (a ≤ b)), ?_, fun x => ?_⟩
  · have hp : ((dis xs).mergeSort (fun a b => decide (a ≤ b))).Pairwise (fun a b => decide (a ≤ b) = true) :=
      List.pairwise_mergeSort (fun a b c h1 h2 => by simp at h1 h2 ⊢; omega) (fun a b => by simp; omega) _
    have hn : ((dis xs).mergeSort (fun a b => decide (a ≤ b))).Nodup := (List.mergeSort_perm _ _).nodup_iff.2 (nodup_dis xs)
    refine List.Pairwise.imp₂ ?_ hp hn
    intro a b h1 h2
    simp at h1
    omega
  · rw [(List.mergeSort_perm _ _).mem_iff, mem_dis]

/-- The greatest number so far, and one more. -/
def Top (xs : List Int) (k n : Nat) : Prop := (∀ x ∈ xs.take k, cl (dis xs) x < n) ∧ (n = 0 ∨ ∃ x ∈ xs.take k, n = cl (dis xs) x + 1)
theorem Top.start (xs : List Int) : Top xs 0 0 := ⟨by simp, .inl rfl⟩
theorem Top.more {xs : List Int} {k n : Nat} (h : Top xs k n) (hk : k < xs.length) (hg : n ≤ cl (dis xs) xs[k]) : Top xs (k + 1) (cl (dis xs) xs[k] + 1) := by
  refine ⟨?_, .inr ⟨xs[k], ?_, rfl⟩⟩
  · intro x hx
    rw [take_snoc hk] at hx
    rcases List.mem_append.1 hx with h1 | h1
    · have := h.1 x h1; omega
    · simp at h1; subst h1; omega
  · rw [take_snoc hk]; exact List.mem_append_right _ (List.mem_singleton.2 rfl)
theorem Top.less {xs : List Int} {k n : Nat} (h : Top xs k n) (hk : k < xs.length) (hg : ¬ n ≤ cl (dis xs) xs[k]) : Top xs (k + 1) n := by
  refine ⟨?_, ?_⟩
  · intro x hx
    rw [take_snoc hk] at hx
    rcases List.mem_append.1 hx with h1 | h1
    · exact h.1 x h1
    · simp at h1; subst h1; omega
  · rcases h.2 with h1 | ⟨x, hx, h1⟩
    · exact .inl h1
    · exact .inr ⟨x, by rw [take_snoc hk]; exact List.mem_append_left _ hx, h1⟩
theorem Top.done {xs : List Int} {n : Nat} (h : Top xs xs.length n) : n = kinds xs := by
  obtain ⟨l, hl⟩ := alpha_ex xs
  rw [hl.kinds]
  unfold Top at h
  rw [List.take_length] at h
  refine hl.max (fun x hx => ?_) ?_
  · rw [← hl.cl]; exact h.1 x hx
  · rcases h.2 with h1 | ⟨x, hx, h1⟩
    · exact .inl h1
    · exact .inr ⟨x, hx, by rw [← hl.cl]; exact h1⟩
theorem Top.le {xs : List Int} {k n : Nat} (h : Top xs k n) : n ≤ xs.length + 1 := by
  rcases h.2 with h1 | ⟨x, _, h1⟩
  · omega
  · have := cl_le (dis xs) x
    have := dis_length_le xs
    omega

/-- The first n numbers of Buckets. -/
def bkTo (xs : List Int) (n : Nat) : List Int := (List.range n).map (fun c : Nat => (cl (dense xs) c : Int))
theorem bkTo_succ (xs : List Int) (n : Nat) : bkTo xs (n + 1) = bkTo xs n ++ [(cl (dense xs) n : Int)] := by simp [bkTo, List.range_succ]
theorem bkTo_length (xs : List Int) (n : Nat) : (bkTo xs n).length = n := by simp [bkTo]
theorem bkTo_all (xs : List Int) : bkTo xs (kinds xs + 1) = buckets xs := rfl
theorem kinds_le (xs : List Int) : kinds xs ≤ xs.length := dis_length_le xs

theorem owns_block {w : World} {B : Nat} {e : TypeId} {size : Nat} {v : Value} {n : Nat} {xs : List Value} (h : w.ownsRow B e size v n xs) : ∀ k, v.ownBlock = some k → B ≤ k := by
  intro k hk
  rcases h.2 with ⟨rfl, _⟩ | ⟨g, _, _, rfl, hg, _⟩
  · simp [Value.ownBlock] at hk
  · simp [Value.ownBlock] at hk; omega

end Go.Proofs.Ytdhehffdddbmbab
