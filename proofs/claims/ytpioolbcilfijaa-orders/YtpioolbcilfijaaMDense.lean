/-
  MDense: plain mathematics of Dense and Buckets (P4). Nothing of the program.
-/
import Derived.Test.YtpioolbcilfijaaMLess
namespace Go.Proofs.Ytpioolbcilfijaa

/-- How many numbers of a list are less than v. -/
def cl (l : List Int) (v : Int) : Nat := l.countP (fun x => decide (x < v))

theorem cl_le (l : List Int) (v : Int) : cl l v ≤ l.length := List.countP_le_length
theorem cl_snoc (l : List Int) (x v : Int) : cl (l ++ [x]) v = cl l v + if x < v then 1 else 0 := by
  simp [cl, List.countP_append, List.countP_singleton]

theorem take_snoc {xs : List Int} {k : Nat} (h : k < xs.length) : xs.take (k + 1) = xs.take k ++ [xs[k]] := List.take_succ_eq_append_getElem h

/-- The different numbers of a list (each where it stands last). -/
def uniqR : List Int → List Int
  | [] => []
  | x :: r => if x ∈ r then uniqR r else x :: uniqR r
def dis (xs : List Int) : List Int := uniqR xs.reverse

theorem mem_uniqR (x : Int) : ∀ l : List Int, x ∈ uniqR l ↔ x ∈ l
  | [] => by simp [uniqR]
  | y :: r => by
    have ih := mem_uniqR x r
    unfold uniqR
    split
    · rw [ih]; constructor
      · intro h; exact List.mem_cons_of_mem _ h
      · intro h; rcases List.mem_cons.1 h with rfl | h <;> assumption
    · simp [ih]
theorem nodup_uniqR : ∀ l : List Int, (uniqR l).Nodup
  | [] => by simp [uniqR]
  | y :: r => by
    have ih := nodup_uniqR r
    unfold uniqR
    split
    · exact ih
    · rw [List.nodup_cons, mem_uniqR]; exact ⟨by assumption, ih⟩
theorem mem_dis (x : Int) (l : List Int) : x ∈ dis l ↔ x ∈ l := by simp [dis, mem_uniqR]
theorem nodup_dis (l : List Int) : (dis l).Nodup := nodup_uniqR _
theorem dis_snoc (l : List Int) (x : Int) : dis (l ++ [x]) = if x ∈ l then dis l else x :: dis l := by
  simp [dis, uniqR]
theorem dis_length_le (l : List Int) : (dis l).length ≤ l.length := (nodup_dis l).length_le_of_subset (fun x hx => (mem_dis x l).1 hx)

/-- Rising lists with the same numbers: the alphabet of a text. -/
def Alpha (xs l : List Int) : Prop := l.Pairwise (· < ·) ∧ ∀ x, x ∈ l ↔ x ∈ xs

theorem Alpha.nodup {xs l : List Int} (h : Alpha xs l) : l.Nodup := h.1.imp (fun h => Int.ne_of_lt h)
theorem Alpha.cl {xs l : List Int} (h : Alpha xs l) (v : Int) : cl (dis xs) v = cl l v := by
  refine List.Perm.countP_eq _ ?_
  rw [List.perm_ext_iff_of_nodup (nodup_dis xs) h.nodup]
  intro a; rw [mem_dis, h.2]
theorem Alpha.length_le {xs l : List Int} (h : Alpha xs l) : l.length ≤ xs.length := h.nodup.length_le_of_subset (fun x hx => (h.2 x).1 hx)

theorem asc_cl {l : List Int} (h : l.Pairwise (· < ·)) (j : Nat) (hj : j < l.length) : cl l l[j] = j := by
  have h1 : cl (l.take j) l[j] = j := by
    have : cl (l.take j) l[j] = (l.take j).length := by
      unfold cl
      rw [List.countP_eq_length]
      intro a ha
      obtain ⟨i, hi, rfl⟩ := List.getElem_of_mem ha
      simp at hi
      have := List.pairwise_iff_getElem.1 h i j (by omega) hj (by omega)
      simpa using this
    rw [this]; simp; omega
  have h2 : cl (l.drop j) l[j] = 0 := by
    unfold cl
    rw [List.countP_eq_zero]
    intro a ha
    obtain ⟨i, hi, rfl⟩ := List.getElem_of_mem ha
    simp at hi
    rcases Nat.eq_zero_or_pos i with rfl | hp
    · simp
    · have := List.pairwise_iff_getElem.1 h j (j + i) hj (by omega) (by omega)
      simp; omega
  have h3 : ∀ v, cl l v = cl (l.take j) v + cl (l.drop j) v := fun v => by
    unfold cl; rw [← List.countP_append, List.take_append_drop]
  have := h3 l[j]
  omega

/-- P4: Dense. -/
def dense (xs : List Int) : List Int := xs.map (fun x => (cl (dis xs) x : Int))
theorem dense_length (xs : List Int) : (dense xs).length = xs.length := by simp [dense]
/-- How many different symbols there are. -/
def kinds (xs : List Int) : Nat := (dis xs).length

theorem Alpha.kinds {xs l : List Int} (h : Alpha xs l) : kinds xs = l.length := by
  refine List.Perm.length_eq ?_
  rw [List.perm_ext_iff_of_nodup (nodup_dis xs) h.nodup]
  intro a; rw [mem_dis, h.2]
theorem Alpha.dense {xs l : List Int} (h : Alpha xs l) : dense xs = xs.map (fun x => (Go.Proofs.Ytpioolbcilfijaa.cl l x : Int)) := by
  unfold Go.Proofs.Ytpioolbcilfijaa.dense
  apply List.map_congr_left
  intro a _; rw [h.cl]

/-- The place of a symbol in the alphabet. -/
theorem Alpha.at {xs l : List Int} (h : Alpha xs l) {x : Int} (hx : x ∈ xs) : ∃ j, ∃ hj : j < l.length, l[j] = x ∧ Go.Proofs.Ytpioolbcilfijaa.cl l x = j := by
  obtain ⟨j, hj, rfl⟩ := List.getElem_of_mem ((h.2 x).2 hx)
  exact ⟨j, hj, rfl, asc_cl h.1 j hj⟩

/-- What the document's loop finds is the number of different symbols. -/
theorem Alpha.max {xs l : List Int} (h : Alpha xs l) {n : Nat} (h1 : ∀ x ∈ xs, Go.Proofs.Ytpioolbcilfijaa.cl l x < n) (h2 : n = 0 ∨ ∃ x ∈ xs, n = Go.Proofs.Ytpioolbcilfijaa.cl l x + 1) : n = l.length := by
  refine Nat.le_antisymm ?_ ?_
  · rcases h2 with rfl | ⟨x, hx, rfl⟩
    · exact Nat.zero_le _
    · obtain ⟨j, hj, _, he⟩ := h.at hx
      omega
  · rcases Nat.eq_zero_or_pos l.length with h0 | hp
    · omega
    · have hm : l[l.length - 1] ∈ xs := (h.2 _).1 (List.getElem_mem (by omega))
      have := h1 _ hm
      rw [asc_cl h.1 (l.length - 1) (by omega)] at this
      omega

/-- P4: Buckets, as the document's answer counts. -/
def buckets (xs : List Int) : List Int := (List.range (kinds xs + 1)).map (fun c : Nat => (cl (dense xs) c : Int))
theorem buckets_length (xs : List Int) : (buckets xs).length = kinds xs + 1 := by simp [buckets]

theorem Alpha.bucket {xs l : List Int} (h : Alpha xs l) (c : Nat) (hc : c < l.length) : Go.Proofs.Ytpioolbcilfijaa.cl (Go.Proofs.Ytpioolbcilfijaa.dense xs) c = Go.Proofs.Ytpioolbcilfijaa.cl xs l[c] := by
  rw [h.dense]
  unfold Go.Proofs.Ytpioolbcilfijaa.cl
  rw [List.countP_map]
  apply List.countP_congr
  intro x hx
  obtain ⟨j, hj, rfl, he⟩ := h.at hx
  have he' : List.countP (fun x => decide (x < l[j])) l = j := he
  simp only [Function.comp, he']
  simp
  rcases Nat.lt_trichotomy j c with h1 | h1 | h1
  · have := List.pairwise_iff_getElem.1 h.1 j c hj hc h1
    exact ⟨fun _ => this, fun _ => h1⟩
  · subst h1; simp
  · have := List.pairwise_iff_getElem.1 h.1 c j hc hj h1
    constructor <;> intro <;> omega
theorem Alpha.bucketEnd {xs l : List Int} (h : Alpha xs l) : Go.Proofs.Ytpioolbcilfijaa.cl (Go.Proofs.Ytpioolbcilfijaa.dense xs) l.length = xs.length := by
  rw [h.dense]
  unfold Go.Proofs.Ytpioolbcilfijaa.cl
  rw [List.countP_map, List.countP_eq_length]
  intro x hx
  obtain ⟨j, hj, rfl, he⟩ := h.at hx
  have he' : List.countP (fun x => decide (x < l[j])) l = j := he
  simp only [Function.comp, he']
  simpa using hj
/-- What the program's Buckets makes. -/
theorem Alpha.buckets {xs l : List Int} (h : Alpha xs l) : buckets xs = l.map (fun s => (Go.Proofs.Ytpioolbcilfijaa.cl xs s : Int)) ++ [(xs.length : Int)] := by
  unfold Go.Proofs.Ytpioolbcilfijaa.buckets
  rw [h.kinds, List.range_succ, List.map_append]
  congr 1
  · apply List.ext_getElem
    · simp
    · intro i h1 h2
      simp at h1
      simp [h.bucket i h1]
  · simp [h.bucketEnd]

/-- The least number above a floor, as the program's loop finds it. -/
def labTo (xs : List Int) (f : Int) : Int := xs.foldl (fun m x => if f < x ∧ (m < 0 ∨ x < m) then x else m) (-1)
theorem labTo_snoc (l : List Int) (x f : Int) : labTo (l ++ [x]) f = if f < x ∧ (labTo l f < 0 ∨ x < labTo l f) then x else labTo l f := by
  unfold labTo; rw [List.foldl_append]; rfl

theorem lab_spec (f : Int) (hf : -1 ≤ f) (xs : List Int) : ∀ n, n ≤ xs.length → (labTo (xs.take n) f = -1 ∧ ∀ x ∈ xs.take n, x ≤ f) ∨ (0 ≤ labTo (xs.take n) f ∧ labTo (xs.take n) f ∈ xs.take n ∧ f < labTo (xs.take n) f ∧ ∀ x ∈ xs.take n, f < x → labTo (xs.take n) f ≤ x) := by
  intro n
  induction n with
  | zero => intro _; left; simp [labTo]
  | succ n ih =>
    intro hn
    have hlt : n < xs.length := by omega
    rw [take_snoc hlt, labTo_snoc]
    generalize hL : labTo (xs.take n) f = L at ih
    have ih' := ih (by omega)
    clear ih
    split
    · rename_i hc
      right
      refine ⟨by omega, List.mem_append_right _ (List.mem_singleton.2 rfl), hc.1, ?_⟩
      intro x hx hfx
      rcases List.mem_append.1 hx with h | h
      · rcases ih' with ⟨h1, h2⟩ | ⟨h1, h2, h3, h4⟩
        · have := h2 x h; omega
        · have := h4 x h hfx; omega
      · simp at h; omega
    · rename_i hc
      rcases ih' with ⟨h1, h2⟩ | ⟨h1, h2, h3, h4⟩
      · left
        refine ⟨h1, ?_⟩
        intro x hx
        rcases List.mem_append.1 hx with h | h
        · exact h2 x h
        · simp at h; subst h; omega
      · right
        refine ⟨h1, List.mem_append_left _ h2, h3, ?_⟩
        intro x hx hfx
        rcases List.mem_append.1 hx with h | h
        · exact h4 x h hfx
        · simp at h; subst h; omega

theorem lab_all (f : Int) (hf : -1 ≤ f) (xs : List Int) : (labTo xs f = -1 ∧ ∀ x ∈ xs, x ≤ f) ∨ (0 ≤ labTo xs f ∧ labTo xs f ∈ xs ∧ f < labTo xs f ∧ ∀ x ∈ xs, f < x → labTo xs f ≤ x) := by
  have := lab_spec f hf xs xs.length (Nat.le_refl _)
  rwa [List.take_length] at this

/-- The alphabet so far: 'l' holds, rising, the symbols up to 'f'. -/
def AlTo (xs l : List Int) (f : Int) : Prop := l.Pairwise (· < ·) ∧ (∀ x ∈ l, x ≤ f) ∧ ∀ x, x ≤ f → (x ∈ l ↔ x ∈ xs)

theorem AlTo.start (xs : List Int) (h : ∀ x ∈ xs, 0 ≤ x) : AlTo xs [] (-1) := by
  refine ⟨List.Pairwise.nil, by simp, fun x hx => ?_⟩
  simp
  intro hm
  have := h x hm
  omega
theorem AlTo.step {xs l : List Int} {f : Int} (h : AlTo xs l f) {s : Int} (hs : s ∈ xs) (hf : f < s) (hm : ∀ x ∈ xs, f < x → s ≤ x) : AlTo xs (l ++ [s]) s := by
  obtain ⟨h1, h2, h3⟩ := h
  refine ⟨?_, ?_, ?_⟩
  · rw [List.pairwise_append]
    refine ⟨h1, List.pairwise_singleton _ _, ?_⟩
    intro a ha b hb
    simp at hb; subst hb
    have := h2 a ha; omega
  · intro x hx
    rcases List.mem_append.1 hx with h | h
    · have := h2 x h; omega
    · simp at h; omega
  · intro x hx
    constructor
    · intro h
      rcases List.mem_append.1 h with h | h
      · exact (h3 x (h2 x h)).1 h
      · simp at h; subst h; exact hs
    · intro h
      rcases Int.lt_or_le f x with h4 | h4
      · have := hm x h h4
        have : x = s := by omega
        simp [this]
      · exact List.mem_append_left _ ((h3 x h4).2 h)
theorem AlTo.nodup {xs l : List Int} {f : Int} (h : AlTo xs l f) : l.Nodup := h.1.imp (fun h => Int.ne_of_lt h)
theorem AlTo.length_le {xs l : List Int} {f : Int} (h : AlTo xs l f) : l.length ≤ xs.length := h.nodup.length_le_of_subset (fun x hx => (h.2.2 x (h.2.1 x hx)).1 hx)
theorem AlTo.done {xs l : List Int} {f : Int} (h : AlTo xs l f) (ha : ∀ x ∈ xs, x ≤ f) : Alpha xs l := by
  refine ⟨h.1, fun x => ⟨fun hx => (h.2.2 x (h.2.1 x hx)).1 hx, fun hx => (h.2.2 x (ha x hx)).2 hx⟩⟩

end Go.Proofs.Ytpioolbcilfijaa
