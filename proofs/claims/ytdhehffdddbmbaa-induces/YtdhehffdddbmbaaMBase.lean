/-
  MBase: plain mathematics: lists compared, kinds, dense texts, orders, counts, ranks, what is shared, where places stand. Nothing of the program.
-/
/-! ## MLess -/

namespace Go.Proofs.Ytdhehffdddbmbaa

/-- Is the list xs lesser than ys? -/
def lt : List Int → List Int → Bool
  | [], [] => false
  | [], _ :: _ => true
  | _ :: _, [] => false
  | x :: r, y :: s => if x = y then lt r s else decide (x < y)

theorem lt_nil (ys : List Int) : lt [] ys = decide (0 < ys.length) := by cases ys <;> simp [lt]
theorem lt_to_nil (xs : List Int) : lt xs [] = false := by cases xs <;> simp [lt]
theorem lt_cons (x y : Int) (r s : List Int) : lt (x :: r) (y :: s) = if x = y then lt r s else decide (x < y) := by rw [lt]
theorem lt_irrefl : ∀ xs : List Int, lt xs xs = false
  | [] => rfl
  | x :: r => by rw [lt_cons, if_pos rfl, lt_irrefl r]

theorem lt_step {xs ys : List Int} {n : Nat} (hx : n < xs.length) (hy : n < ys.length) : lt (xs.drop n) (ys.drop n) = if xs[n] = ys[n] then lt (xs.drop (n + 1)) (ys.drop (n + 1)) else decide (xs[n] < ys[n]) := by
  rw [List.drop_eq_getElem_cons hx, List.drop_eq_getElem_cons hy, lt_cons]
theorem lt_end_left {xs ys : List Int} {n : Nat} (hx : xs.length = n) (hy : n ≤ ys.length) : lt (xs.drop n) (ys.drop n) = decide (xs.length < ys.length) := by
  rw [List.drop_eq_nil_of_le (by omega), lt_nil]
  simp; omega
theorem lt_end_right {xs ys : List Int} {n : Nat} (hx : n < xs.length) (hy : ys.length = n) : lt (xs.drop n) (ys.drop n) = decide (xs.length < ys.length) := by
  rw [List.drop_eq_nil_of_le (show ys.length ≤ n by omega), lt_to_nil]
  simp; omega

end Go.Proofs.Ytdhehffdddbmbaa

/-! ## MKinds -/

namespace Go.Proofs.Ytdhehffdddbmbaa

/-- Is the suffix at i greater than the next one? -/
def gt (xs : List Int) (i : Nat) : Bool := lt (xs.drop (i + 1)) (xs.drop i)
theorem gt_last {xs : List Int} {i : Nat} (h : i + 1 = xs.length) : gt xs i = true := by
  unfold gt
  rw [List.drop_eq_nil_of_le (show xs.length ≤ i + 1 by omega), lt_nil]
  simp; omega
theorem gt_same {xs : List Int} {i : Nat} (h : i + 1 < xs.length) (he : xs[i] = xs[i + 1]) : gt xs i = gt xs (i + 1) := by
  unfold gt
  rw [List.drop_eq_getElem_cons h, List.drop_eq_getElem_cons (show i < xs.length by omega), lt_cons, if_pos he.symm, List.drop_eq_getElem_cons h]
theorem gt_other {xs : List Int} {i : Nat} (h : i + 1 < xs.length) (he : ¬ xs[i] = xs[i + 1]) : gt xs i = decide (xs[i + 1] < xs[i]) := by
  unfold gt
  rw [List.drop_eq_getElem_cons h, List.drop_eq_getElem_cons (show i < xs.length by omega), lt_cons, if_neg (fun e => he e.symm)]

/-- P5: the byte of a place. -/
def kd (xs : List Int) (i : Nat) : Int := if gt xs i = true then 76 else if 0 < i ∧ gt xs (i - 1) = true then 77 else 83
/-- The byte without marks. -/
def ls (xs : List Int) (i : Nat) : Int := if gt xs i = true then 76 else 83
def kindsL (xs : List Int) : List Int := (List.range xs.length).map (kd xs)
theorem kindsL_length (xs : List Int) : (kindsL xs).length = xs.length := by simp [kindsL]

theorem kd_L {xs : List Int} {i : Nat} (h : gt xs i = true) : kd xs i = 76 := by simp [kd, h]
theorem kd_M {xs : List Int} {i : Nat} (h : gt xs (i + 1) = false) (h2 : gt xs i = true) : kd xs (i + 1) = 77 := by simp [kd, h, h2]
theorem kd_S {xs : List Int} {i : Nat} (h : gt xs (i + 1) = false) (h2 : gt xs i = false) : kd xs (i + 1) = 83 := by simp [kd, h, h2]
theorem kd_S0 {xs : List Int} (h : gt xs 0 = false) : kd xs 0 = 83 := by simp [kd, h]
theorem kd_not {xs : List Int} {i : Nat} (h : gt xs i = false) : (kd xs i == 76) = false := by
  unfold kd; rw [h]; simp; split <;> omega
theorem ls_L {xs : List Int} {i : Nat} (h : gt xs i = true) : ls xs i = 76 := by simp [ls, h]
theorem ls_S {xs : List Int} {i : Nat} (h : gt xs i = false) : ls xs i = 83 := by simp [ls, h]

/-- Before n the kinds, from n on L and S alone; nothing is said of what lies below m. -/
def Part (xs ks : List Int) (m n : Nat) : Prop := ks.length = xs.length ∧ (∀ j, m ≤ j → j < n → j < xs.length → ks[j]? = some (kd xs j)) ∧ ∀ j, m ≤ j → n ≤ j → j < xs.length → ks[j]? = some (ls xs j)

theorem Part.down {xs ks : List Int} {m : Nat} (h : Part xs ks (m + 1) 0) (hm : m < xs.length) : Part xs (ks.set m (ls xs m)) m 0 := by
  obtain ⟨h1, h2, h3⟩ := h
  refine ⟨by simpa using h1, by omega, fun j hj _ hl => ?_⟩
  rcases Nat.eq_or_lt_of_le hj with rfl | hlt
  · rw [List.getElem?_set_self (by omega)]
  · rw [List.getElem?_set_ne (by omega)]; exact h3 j hlt (Nat.zero_le _) hl
theorem Part.one {xs ks : List Int} (h : Part xs ks 0 0) : Part xs ks 0 1 := by
  obtain ⟨h1, _, h3⟩ := h
  refine ⟨h1, fun j _ hj hl => ?_, fun j _ _ hl => h3 j (Nat.zero_le _) (Nat.zero_le _) hl⟩
  obtain rfl : j = 0 := by omega
  rw [h3 0 (Nat.le_refl _) (Nat.le_refl _) hl]
  simp [kd, ls]
theorem Part.stay {xs ks : List Int} {n : Nat} (h : Part xs ks 0 n) (he : kd xs n = ls xs n) : Part xs ks 0 (n + 1) := by
  obtain ⟨h1, h2, h3⟩ := h
  refine ⟨h1, fun j hj hjn hl => ?_, fun j hj hjn hl => h3 j hj (by omega) hl⟩
  rcases Nat.lt_or_ge j n with h | h
  · exact h2 j hj h hl
  · obtain rfl : j = n := by omega
    rw [h3 j hj (Nat.le_refl _) hl, he]
theorem Part.put {xs ks : List Int} {n : Nat} (h : Part xs ks 0 n) (hn : n < xs.length) : Part xs (ks.set n (kd xs n)) 0 (n + 1) := by
  obtain ⟨h1, h2, h3⟩ := h
  refine ⟨by simpa using h1, fun j hj hjn hl => ?_, fun j hj hjn hl => ?_⟩
  · rcases Nat.lt_or_ge j n with h | h
    · rw [List.getElem?_set_ne (by omega)]; exact h2 j hj h hl
    · obtain rfl : j = n := by omega
      rw [List.getElem?_set_self (by omega)]
  · rw [List.getElem?_set_ne (by omega)]; exact h3 j hj (by omega) hl
theorem Part.done {xs ks : List Int} {n : Nat} (h : Part xs ks 0 n) (hn : xs.length ≤ n) : ks = kindsL xs := by
  obtain ⟨h1, h2, _⟩ := h
  apply List.ext_getElem?
  intro j
  rcases Nat.lt_or_ge j xs.length with hj | hj
  · rw [h2 j (Nat.zero_le _) (by omega) hj]
    simp [kindsL, hj]
  · rw [List.getElem?_eq_none (by omega), List.getElem?_eq_none (by rw [kindsL_length]; omega)]

/-- The document's loop: the first n bytes stand. -/
def Pre (xs ks : List Int) (n : Nat) : Prop := ks.length = xs.length ∧ ∀ j, j < n → j < xs.length → ks[j]? = some (kd xs j)
theorem Pre.put {xs ks : List Int} {n : Nat} (h : Pre xs ks n) (hn : n < xs.length) : Pre xs (ks.set n (kd xs n)) (n + 1) := by
  obtain ⟨h1, h2⟩ := h
  refine ⟨by simpa using h1, fun j hjn hl => ?_⟩
  rcases Nat.lt_or_ge j n with h | h
  · rw [List.getElem?_set_ne (by omega)]; exact h2 j h hl
  · obtain rfl : j = n := by omega
    rw [List.getElem?_set_self (by omega)]
theorem Pre.done {xs ks : List Int} {n : Nat} (h : Pre xs ks n) (hn : xs.length ≤ n) : ks = kindsL xs := by
  obtain ⟨h1, h2⟩ := h
  apply List.ext_getElem?
  intro j
  rcases Nat.lt_or_ge j xs.length with hj | hj
  · rw [h2 j (by omega) hj]
    simp [kindsL, hj]
  · rw [List.getElem?_eq_none (by omega), List.getElem?_eq_none (by rw [kindsL_length]; omega)]

end Go.Proofs.Ytdhehffdddbmbaa

/-! ## MDense -/

namespace Go.Proofs.Ytdhehffdddbmbaa

/-- How many numbers of a list are less than v. -/
def cl (l : List Int) (v : Int) : Nat := l.countP (fun x => decide (x < v))

theorem cl_le (l : List Int) (v : Int) : cl l v ≤ l.length := List.countP_le_length
theorem cl_snoc (l : List Int) (x v : Int) : cl (l ++ [x]) v = cl l v + if x < v then 1 else 0 := by
  simp [cl, List.countP_append, List.countP_singleton]

theorem take_snoc {xs : List Int} {k : Nat} (h : k < xs.length) : xs.take (k + 1) = xs.take k ++ [xs[k]] := List.take_succ_eq_append_getElem h

/-- The different numbers of a list (each where it stands last). -/
def uniqR : List Int → List Int
  | [] => []
  | x :: r => if x ∈ r then uniqR r else x :: uniqR r
def dis (xs : List Int) : List Int := uniqR xs.reverse

theorem mem_uniqR (x : Int) : ∀ l : List Int, x ∈ uniqR l ↔ x ∈ l
  | [] => by simp [uniqR]
  | y :: r => by
    have ih := mem_uniqR x r
    unfold uniqR
    split
    · rw [ih]; constructor
      · intro h; exact List.mem_cons_of_mem _ h
      · intro h; rcases List.mem_cons.1 h with rfl | h <;> assumption
    · simp [ih]
theorem nodup_uniqR : ∀ l : List Int, (uniqR l).Nodup
  | [] => by simp [uniqR]
  | y :: r => by
    have ih := nodup_uniqR r
    unfold uniqR
    split
    · exact ih
    · rw [List.nodup_cons, mem_uniqR]; exact ⟨by assumption, ih⟩
theorem mem_dis (x : Int) (l : List Int) : x ∈ dis l ↔ x ∈ l := by simp [dis, mem_uniqR]
theorem nodup_dis (l : List Int) : (dis l).Nodup := nodup_uniqR _
theorem dis_snoc (l : List Int) (x : Int) : dis (l ++ [x]) = if x ∈ l then dis l else x :: dis l := by
  simp [dis, uniqR]
theorem dis_length_le (l : List Int) : (dis l).length ≤ l.length := (nodup_dis l).length_le_of_subset (fun x hx => (mem_dis x l).1 hx)

/-- Rising lists with the same numbers: the alphabet of a text. -/
def Alpha (xs l : List Int) : Prop := l.Pairwise (· < ·) ∧ ∀ x, x ∈ l ↔ x ∈ xs

theorem Alpha.nodup {xs l : List Int} (h : Alpha xs l) : l.Nodup := h.1.imp (fun h => Int.ne_of_lt h)
theorem Alpha.cl {xs l : List Int} (h : Alpha xs l) (v : Int) : cl (dis xs) v = cl l v := by
  refine List.Perm.countP_eq _ ?_
  rw [List.perm_ext_iff_of_nodup (nodup_dis xs) h.nodup]
  intro a; rw [mem_dis, h.2]
theorem Alpha.length_le {xs l : List Int} (h : Alpha xs l) : l.length ≤ xs.length := h.nodup.length_le_of_subset (fun x hx => (h.2 x).1 hx)

theorem asc_cl {l : List Int} (h : l.Pairwise (· < ·)) (j : Nat) (hj : j < l.length) : cl l l[j] = j := by
  have h1 : cl (l.take j) l[j] = j := by
    have : cl (l.take j) l[j] = (l.take j).length := by
      unfold cl
      rw [List.countP_eq_length]
      intro a ha
      obtain ⟨i, hi, rfl⟩ := List.getElem_of_mem ha
      simp at hi
      have := List.pairwise_iff_getElem.1 h i j (by omega) hj (by omega)
      simpa using this
    rw [this]; simp; omega
  have h2 : cl (l.drop j) l[j] = 0 := by
    unfold cl
    rw [List.countP_eq_zero]
    intro a ha
    obtain ⟨i, hi, rfl⟩ := List.getElem_of_mem ha
    simp at hi
    rcases Nat.eq_zero_or_pos i with rfl | hp
    · simp
    · have := List.pairwise_iff_getElem.1 h j (j + i) hj (by omega) (by omega)
      simp; omega
  have h3 : ∀ v, cl l v = cl (l.take j) v + cl (l.drop j) v := fun v => by
    unfold cl; rw [← List.countP_append, List.take_append_drop]
  have := h3 l[j]
  omega

/-- P4: Dense. -/
def dense (xs : List Int) : List Int := xs.map (fun x => (cl (dis xs) x : Int))
theorem dense_length (xs : List Int) : (dense xs).length = xs.length := by simp [dense]
/-- How many different symbols there are. -/
def kinds (xs : List Int) : Nat := (dis xs).length

theorem Alpha.kinds {xs l : List Int} (h : Alpha xs l) : kinds xs = l.length := by
  refine List.Perm.length_eq ?_
  rw [List.perm_ext_iff_of_nodup (nodup_dis xs) h.nodup]
  intro a; rw [mem_dis, h.2]
theorem Alpha.dense {xs l : List Int} (h : Alpha xs l) : dense xs = xs.map (fun x => (Go.Proofs.Ytdhehffdddbmbaa.cl l x : Int)) := by
  unfold Go.Proofs.Ytdhehffdddbmbaa.dense
  apply List.map_congr_left
  intro a _; rw [h.cl]

/-- The place of a symbol in the alphabet. -/
theorem Alpha.at {xs l : List Int} (h : Alpha xs l) {x : Int} (hx : x ∈ xs) : ∃ j, ∃ hj : j < l.length, l[j] = x ∧ Go.Proofs.Ytdhehffdddbmbaa.cl l x = j := by
  obtain ⟨j, hj, rfl⟩ := List.getElem_of_mem ((h.2 x).2 hx)
  exact ⟨j, hj, rfl, asc_cl h.1 j hj⟩

/-- What the document's loop finds is the number of different symbols. -/
theorem Alpha.max {xs l : List Int} (h : Alpha xs l) {n : Nat} (h1 : ∀ x ∈ xs, Go.Proofs.Ytdhehffdddbmbaa.cl l x < n) (h2 : n = 0 ∨ ∃ x ∈ xs, n = Go.Proofs.Ytdhehffdddbmbaa.cl l x + 1) : n = l.length := by
  refine Nat.le_antisymm ?_ ?_
  · rcases h2 with rfl | ⟨x, hx, rfl⟩
    · exact Nat.zero_le _
    · obtain ⟨j, hj, _, he⟩ := h.at hx
      omega
  · rcases Nat.eq_zero_or_pos l.length with h0 | hp
    · omega
    · have hm : l[l.length - 1] ∈ xs := (h.2 _).1 (List.getElem_mem (by omega))
      have := h1 _ hm
      rw [asc_cl h.1 (l.length - 1) (by omega)] at this
      omega

/-- P4: Buckets, as the document's answer counts. -/
def buckets (xs : List Int) : List Int := (List.range (kinds xs + 1)).map (fun c : Nat => (cl (dense xs) c : Int))
theorem buckets_length (xs : List Int) : (buckets xs).length = kinds xs + 1 := by simp [buckets]

theorem Alpha.bucket {xs l : List Int} (h : Alpha xs l) (c : Nat) (hc : c < l.length) : Go.Proofs.Ytdhehffdddbmbaa.cl (Go.Proofs.Ytdhehffdddbmbaa.dense xs) c = Go.Proofs.Ytdhehffdddbmbaa.cl xs l[c] := by
  rw [h.dense]
  unfold Go.Proofs.Ytdhehffdddbmbaa.cl
  rw [List.countP_map]
  apply List.countP_congr
  intro x hx
  obtain ⟨j, hj, rfl, he⟩ := h.at hx
  have he' : List.countP (fun x => decide (x < l[j])) l = j := he
  simp only [Function.comp, he']
  simp
  rcases Nat.lt_trichotomy j c with h1 | h1 | h1
  · have := List.pairwise_iff_getElem.1 h.1 j c hj hc h1
    exact ⟨fun _ => this, fun _ => h1⟩
  · subst h1; simp
  · have := List.pairwise_iff_getElem.1 h.1 c j hc hj h1
    constructor <;> intro <;> omega
theorem Alpha.bucketEnd {xs l : List Int} (h : Alpha xs l) : Go.Proofs.Ytdhehffdddbmbaa.cl (Go.Proofs.Ytdhehffdddbmbaa.dense xs) l.length = xs.length := by
  rw [h.dense]
  unfold Go.Proofs.Ytdhehffdddbmbaa.cl
  rw [List.countP_map, List.countP_eq_length]
  intro x hx
  obtain ⟨j, hj, rfl, he⟩ := h.at hx
  have he' : List.countP (fun x => decide (x < l[j])) l = j := he
  simp only [Function.comp, he']
  simpa using hj
/-- What the program's Buckets makes. -/
theorem Alpha.buckets {xs l : List Int} (h : Alpha xs l) : buckets xs = l.map (fun s => (Go.Proofs.Ytdhehffdddbmbaa.cl xs s : Int)) ++ [(xs.length : Int)] := by
  unfold Go.Proofs.Ytdhehffdddbmbaa.buckets
  rw [h.kinds, List.range_succ, List.map_append]
  congr 1
  · apply List.ext_getElem
    · simp
    · intro i h1 h2
      simp at h1
      simp [h.bucket i h1]
  · simp [h.bucketEnd]

/-- The least number above a floor, as the program's loop finds it. -/
def labTo (xs : List Int) (f : Int) : Int := xs.foldl (fun m x => if f < x ∧ (m < 0 ∨ x < m) then x else m) (-1)
theorem labTo_snoc (l : List Int) (x f : Int) : labTo (l ++ [x]) f = if f < x ∧ (labTo l f < 0 ∨ x < labTo l f) then x else labTo l f := by
  unfold labTo; rw [List.foldl_append]; rfl

theorem lab_spec (f : Int) (hf : -1 ≤ f) (xs : List Int) : ∀ n, n ≤ xs.length → (labTo (xs.take n) f = -1 ∧ ∀ x ∈ xs.take n, x ≤ f) ∨ (0 ≤ labTo (xs.take n) f ∧ labTo (xs.take n) f ∈ xs.take n ∧ f < labTo (xs.take n) f ∧ ∀ x ∈ xs.take n, f < x → labTo (xs.take n) f ≤ x) := by
  intro n
  induction n with
  | zero => intro _; left; simp [labTo]
  | succ n ih =>
    intro hn
    have hlt : n < xs.length := by omega
    rw [take_snoc hlt, labTo_snoc]
    generalize hL : labTo (xs.take n) f = L at ih
    have ih' := ih (by omega)
    clear ih
    split
    · rename_i hc
      right
      refine ⟨by omega, List.mem_append_right _ (List.mem_singleton.2 rfl), hc.1, ?_⟩
      intro x hx hfx
      rcases List.mem_append.1 hx with h | h
      · rcases ih' with ⟨h1, h2⟩ | ⟨h1, h2, h3, h4⟩
        · have := h2 x h; omega
        · have := h4 x h hfx; omega
      · simp at h; omega
    · rename_i hc
      rcases ih' with ⟨h1, h2⟩ | ⟨h1, h2, h3, h4⟩
      · left
        refine ⟨h1, ?_⟩
        intro x hx
        rcases List.mem_append.1 hx with h | h
        · exact h2 x h
        · simp at h; subst h; omega
      · right
        refine ⟨h1, List.mem_append_left _ h2, h3, ?_⟩
        intro x hx hfx
        rcases List.mem_append.1 hx with h | h
        · exact h4 x h hfx
        · simp at h; subst h; omega

theorem lab_all (f : Int) (hf : -1 ≤ f) (xs : List Int) : (labTo xs f = -1 ∧ ∀ x ∈ xs, x ≤ f) ∨ (0 ≤ labTo xs f ∧ labTo xs f ∈ xs ∧ f < labTo xs f ∧ ∀ x ∈ xs, f < x → labTo xs f ≤ x) := by
  have := lab_spec f hf xs xs.length (Nat.le_refl _)
  rwa [List.take_length] at this

/-- The alphabet so far: 'l' holds, rising, the symbols up to 'f'. -/
def AlTo (xs l : List Int) (f : Int) : Prop := l.Pairwise (· < ·) ∧ (∀ x ∈ l, x ≤ f) ∧ ∀ x, x ≤ f → (x ∈ l ↔ x ∈ xs)

theorem AlTo.start (xs : List Int) (h : ∀ x ∈ xs, 0 ≤ x) : AlTo xs [] (-1) := by
  refine ⟨List.Pairwise.nil, by simp, fun x hx => ?_⟩
  simp
  intro hm
  have := h x hm
  omega
theorem AlTo.step {xs l : List Int} {f : Int} (h : AlTo xs l f) {s : Int} (hs : s ∈ xs) (hf : f < s) (hm : ∀ x ∈ xs, f < x → s ≤ x) : AlTo xs (l ++ [s]) s := by
  obtain ⟨h1, h2, h3⟩ := h
  refine ⟨?_, ?_, ?_⟩
  · rw [List.pairwise_append]
    refine ⟨h1, List.pairwise_singleton _ _, ?_⟩
    intro a ha b hb
    simp at hb; subst hb
    have := h2 a ha; omega
  · intro x hx
    rcases List.mem_append.1 hx with h | h
    · have := h2 x h; omega
    · simp at h; omega
  · intro x hx
    constructor
    · intro h
      rcases List.mem_append.1 h with h | h
      · exact (h3 x (h2 x h)).1 h
      · simp at h; subst h; exact hs
    · intro h
      rcases Int.lt_or_le f x with h4 | h4
      · have := hm x h h4
        have : x = s := by omega
        simp [this]
      · exact List.mem_append_left _ ((h3 x h4).2 h)
theorem AlTo.nodup {xs l : List Int} {f : Int} (h : AlTo xs l f) : l.Nodup := h.1.imp (fun h => Int.ne_of_lt h)
theorem AlTo.length_le {xs l : List Int} {f : Int} (h : AlTo xs l f) : l.length ≤ xs.length := h.nodup.length_le_of_subset (fun x hx => (h.2.2 x (h.2.1 x hx)).1 hx)
theorem AlTo.done {xs l : List Int} {f : Int} (h : AlTo xs l f) (ha : ∀ x ∈ xs, x ≤ f) : Alpha xs l := by
  refine ⟨h.1, fun x => ⟨fun hx => (h.2.2 x (h.2.1 x hx)).1 hx, fun hx => (h.2.2 x (ha x hx)).2 hx⟩⟩

end Go.Proofs.Ytdhehffdddbmbaa

/-! ## MOrder -/

namespace Go.Proofs.Ytdhehffdddbmbaa

theorem lt_trans : ∀ a b c : List Int, lt a b = true → lt b c = true → lt a c = true
  | [], [], _, h, _ => by simp [lt] at h
  | [], _ :: _, [], _, h => by simp [lt] at h
  | [], _ :: _, _ :: _, _, _ => rfl
  | _ :: _, [], _, h, _ => by simp [lt] at h
  | _ :: _, _ :: _, [], _, h => by simp [lt] at h
  | x :: r, y :: s, z :: t, h1, h2 => by
    rw [lt_cons] at h1 h2 ⊢
    by_cases e1 : x = y
    · subst e1
      rw [if_pos rfl] at h1
      by_cases e2 : x = z
      · subst e2
        rw [if_pos rfl] at h2 ⊢
        exact lt_trans r s t h1 h2
      · rw [if_neg e2] at h2 ⊢
        exact h2
    · rw [if_neg e1] at h1
      by_cases e2 : y = z
      · subst e2
        rw [if_neg e1]
        exact h1
      · rw [if_neg e2] at h2
        simp at h1 h2
        rw [if_neg (by omega)]
        simp; omega

theorem lt_asymm (a b : List Int) (h : lt a b = true) : lt b a = false := by
  cases h2 : lt b a with
  | false => rfl
  | true => have := lt_trans a b a h h2; rw [lt_irrefl] at this; cases this

theorem lt_total : ∀ a b : List Int, lt a b = true ∨ lt b a = true ∨ a = b
  | [], [] => .inr (.inr rfl)
  | [], _ :: _ => .inl rfl
  | _ :: _, [] => .inr (.inl rfl)
  | x :: r, y :: s => by
    rw [lt_cons, lt_cons]
    by_cases e : x = y
    · subst e
      rw [if_pos rfl, if_pos rfl]
      rcases lt_total r s with h | h | h
      · exact .inl h
      · exact .inr (.inl h)
      · exact .inr (.inr (by rw [h]))
    · rw [if_neg e, if_neg (fun h => e h.symm)]
      simp
      omega

/-- The suffix at p is lesser than that at q. -/
def sl (xs : List Int) (p q : Int) : Prop := lt (xs.drop p.toNat) (xs.drop q.toNat) = true

theorem sl_trans {xs : List Int} {p q r : Int} (h : sl xs p q) (h2 : sl xs q r) : sl xs p r := lt_trans _ _ _ h h2
theorem sl_irrefl (xs : List Int) (p : Int) : ¬ sl xs p p := by unfold sl; rw [lt_irrefl]; simp
theorem sl_asymm {xs : List Int} {p q : Int} (h : sl xs p q) : ¬ sl xs q p := by
  unfold sl at *; rw [lt_asymm _ _ h]; simp
theorem sl_total {xs : List Int} {p q : Int} (hp : 0 ≤ p) (hq : 0 ≤ q) (hq' : q < xs.length) (h : ¬ sl xs p q) (hne : p ≠ q) : sl xs q p := by
  rcases lt_total (xs.drop p.toNat) (xs.drop q.toNat) with h1 | h1 | h1
  · exact absurd h1 h
  · exact h1
  · have := congrArg List.length h1
    simp at this
    omega

/-- 'l' holds just the places below n, in the order of their suffixes. -/
def OrdTo (xs l : List Int) (n : Nat) : Prop := l.Pairwise (sl xs) ∧ ∀ p, p ∈ l ↔ 0 ≤ p ∧ p < n
/-- 'l' is the order of the text. -/
def Ord (xs l : List Int) : Prop := OrdTo xs l xs.length

theorem sl_nodup {xs l : List Int} (h : l.Pairwise (sl xs)) : l.Nodup :=
  h.imp (fun {a b} (h : sl xs a b) => (show a ≠ b from fun e => sl_irrefl xs b (by rw [e] at h; exact h)))
theorem OrdTo.nodup {xs l : List Int} {n : Nat} (h : OrdTo xs l n) : l.Nodup := sl_nodup h.1

/-- The places below n. -/
def places (n : Nat) : List Int := (List.range n).map (fun i : Nat => (i : Int))
theorem places_length (n : Nat) : (places n).length = n := by simp [places]
theorem mem_places (n : Nat) (p : Int) : p ∈ places n ↔ 0 ≤ p ∧ p < n := by
  simp only [places, List.mem_map, List.mem_range]
  constructor
  · rintro ⟨a, h, rfl⟩; omega
  · intro h; exact ⟨p.toNat, by omega, by omega⟩
theorem nodup_places (n : Nat) : (places n).Nodup := by
  unfold places
  refine List.Pairwise.map _ ?_ (List.pairwise_lt_range (n := n))
  intro a b h
  show (a : Int) ≠ b
  omega

theorem OrdTo.perm {xs l : List Int} {n : Nat} (h : OrdTo xs l n) : l.Perm (places n) := by
  rw [List.perm_ext_iff_of_nodup h.nodup (nodup_places n)]
  intro a; rw [h.2, mem_places]
theorem OrdTo.length {xs l : List Int} {n : Nat} (h : OrdTo xs l n) : l.length = n := by rw [h.perm.length_eq, places_length]

theorem Ord.unique {xs l l' : List Int} (h : Ord xs l) (h' : Ord xs l') : l = l' := by
  refine List.Perm.eq_of_pairwise (le := sl xs) ?_ h.1 h'.1 (h.perm.trans h'.perm.symm)
  intro a b _ _ h1 h2
  exact absurd h2 (sl_asymm h1)

/-- Places that rise, as many as there are: that is the order. -/
theorem ord_of {xs l : List Int} (hp : l.Pairwise (sl xs)) (hl : l.length = xs.length) (hr : ∀ p ∈ l, 0 ≤ p ∧ p < xs.length) : Ord xs l := by
  refine ⟨hp, fun p => ⟨hr p, fun h => ?_⟩⟩
  have hn : l.Nodup := sl_nodup hp
  rcases Classical.em (p ∈ l) with h1 | h1
  · exact h1
  · exfalso
    have h2 : (p :: l).Nodup := List.nodup_cons.2 ⟨h1, hn⟩
    have h3 : (p :: l) ⊆ places xs.length := by
      intro q hq
      rw [mem_places]
      rcases List.mem_cons.1 hq with rfl | hq
      · exact h
      · exact hr q hq
    have := h2.length_le_of_subset h3
    rw [places_length] at this
    simp at this
    omega

theorem rise_step {xs l : List Int} {n : Nat} (hn : n + 1 < l.length) (h : (l.take (n + 1)).Pairwise (sl xs)) (hs : sl xs l[n] l[n + 1]) : (l.take (n + 2)).Pairwise (sl xs) := by
  rw [List.take_succ_eq_append_getElem hn, List.pairwise_append]
  refine ⟨h, List.pairwise_singleton _ _, ?_⟩
  intro a ha b hb
  rw [List.mem_singleton] at hb
  subst hb
  obtain ⟨i, hi, rfl⟩ := List.getElem_of_mem ha
  have hi' : i < n + 1 := by simp at hi; omega
  rcases Nat.lt_or_ge i n with h1 | h1
  · have := List.pairwise_iff_getElem.1 h i n hi (by simp; omega) h1
    refine sl_trans this ?_
    simpa using hs
  · have : i = n := by omega
    subst this
    simpa using hs

theorem rise_no {xs l : List Int} {n : Nat} (hn : n + 1 < l.length) (hs : ¬ sl xs l[n] l[n + 1]) : ¬ Ord xs l :=
  fun h => hs (List.pairwise_iff_getElem.1 h.1 n (n + 1) (by omega) hn (by omega))

/-! ### The document's own way: each place is put behind those that have lesser suffixes. -/

def putAt (l : List Int) (k : Nat) (v : Int) : List Int := l.take k ++ (v :: l.drop k)

theorem OrdTo.start (xs : List Int) : OrdTo xs [] 0 := ⟨List.Pairwise.nil, fun p => by simp⟩

theorem OrdTo.put {xs l : List Int} {n k : Nat} (h : OrdTo xs l n) (hn : n < xs.length) (hk : k ≤ l.length) (h1 : ∀ p ∈ l.take k, sl xs p n) (h2 : ∀ hk : k < l.length, ¬ sl xs l[k] n) : OrdTo xs (putAt l k n) (n + 1) := by
  have hm : ∀ p ∈ l.drop k, sl xs n p := by
    intro p hp
    obtain ⟨i, hi, rfl⟩ := List.getElem_of_mem hp
    simp at hi
    have hkl : k < l.length := by omega
    have hin : l[k] ∈ l := List.getElem_mem hkl
    have hr := (h.2 _).1 hin
    have h0 : sl xs n l[k] := sl_total hr.1 (by omega) (by omega) (h2 hkl) (by omega)
    rcases Nat.eq_zero_or_pos i with rfl | hp0
    · simpa using h0
    · have := List.pairwise_iff_getElem.1 h.1 k (k + i) hkl (by omega) (by omega)
      refine sl_trans h0 ?_
      simpa using this
  refine ⟨?_, fun p => ?_⟩
  · unfold putAt
    rw [List.pairwise_append, List.pairwise_cons]
    have hs : (l.take k ++ l.drop k).Pairwise (sl xs) := by rw [List.take_append_drop]; exact h.1
    rw [List.pairwise_append] at hs
    refine ⟨hs.1, ⟨hm, hs.2.1⟩, ?_⟩
    intro a ha b hb
    rcases List.mem_cons.1 hb with rfl | hb
    · exact h1 a ha
    · exact hs.2.2 a ha b hb
  · unfold putAt
    rw [List.mem_append, List.mem_cons]
    have hmem : p ∈ l ↔ p ∈ l.take k ∨ p ∈ l.drop k := by rw [← List.mem_append, List.take_append_drop]
    have := h.2 p
    constructor
    · rintro (h3 | rfl | h3)
      · have := (h.2 p).1 (hmem.2 (.inl h3)); omega
      · omega
      · have := (h.2 p).1 (hmem.2 (.inr h3)); omega
    · intro h3
      by_cases e : p = n
      · exact .inr (.inl e)
      · rcases hmem.1 ((h.2 p).2 ⟨h3.1, by omega⟩) with h4 | h4
        · exact .inl h4
        · exact .inr (.inr h4)

theorem putAt_length (l : List Int) (k : Nat) (v : Int) (h : k ≤ l.length) : (putAt l k v).length = l.length + 1 := by simp [putAt]; omega

/-- There is an order. -/
theorem ord_ex (xs : List Int) : ∃ L, Ord xs L := by
  let le : Int → Int → Bool := fun a b => !(lt (xs.drop b.toNat) (xs.drop a.toNat))
  have hle : ∀ a b, le a b = true → lt (xs.drop a.toNat) (xs.drop b.toNat) = true ∨ xs.drop a.toNat = xs.drop b.toNat := by
    intro a b h
    have h' : lt (xs.drop b.toNat) (xs.drop a.toNat) = false := by simpa [le] using h
    rcases lt_total (xs.drop a.toNat) (xs.drop b.toNat) with h1 | h1 | h1
    · exact .inl h1
    · rw [h'] at h1; cases h1
    · exact .inr h1
  have htr : ∀ a b c, le a b = true → le b c = true → le a c = true := by
    intro a b c h1 h2
    have : lt (xs.drop c.toNat) (xs.drop a.toNat) = false := by
      rcases hle a b h1 with e1 | e1
      · rcases hle b c h2 with e2 | e2
        · exact lt_asymm _ _ (lt_trans _ _ _ e1 e2)
        · rw [← e2]; exact lt_asymm _ _ e1
      · rw [e1]
        simpa [le] using h2
    simp [le, this]
  have hto : ∀ a b, (le a b || le b a) = true := by
    intro a b
    cases h : lt (xs.drop b.toNat) (xs.drop a.toNat) with
    | false => simp [le, h]
    | true => simp [le, lt_asymm _ _ h]
  have hp : ((places xs.length).mergeSort le).Pairwise (fun a b => le a b = true) := List.pairwise_mergeSort htr hto _
  have hperm := List.mergeSort_perm (places xs.length) le
  have hn : ((places xs.length).mergeSort le).Nodup := hperm.nodup_iff.2 (nodup_places _)
  refine ⟨(places xs.length).mergeSort le, ?_, fun p => by rw [hperm.mem_iff, mem_places]⟩
  rw [List.pairwise_iff_getElem] at hp ⊢
  intro i j hi hj hij
  have h1 := hp i j hi hj hij
  have h2 : ((places xs.length).mergeSort le)[i] ≠ ((places xs.length).mergeSort le)[j] := List.pairwise_iff_getElem.1 hn i j hi hj hij
  have m1 := (mem_places xs.length _).1 (hperm.mem_iff.1 (List.getElem_mem hi))
  have m2 := (mem_places xs.length _).1 (hperm.mem_iff.1 (List.getElem_mem hj))
  refine sl_total m2.1 m1.1 m1.2 ?_ (Ne.symm h2)
  unfold sl
  have h' : lt (xs.drop (((places xs.length).mergeSort le)[j]).toNat) (xs.drop (((places xs.length).mergeSort le)[i]).toNat) = false := by simpa [le] using h1
  rw [h']; simp

end Go.Proofs.Ytdhehffdddbmbaa

/-! ## MCnt -/

namespace Go.Proofs.Ytdhehffdddbmbaa

/-- Below i the numbers f, at i the number c, behind it 0. -/
def Cnt (f : Nat → Int) (n : Nat) (ds : List Int) (i : Nat) (c : Int) : Prop :=
  ds.length = n ∧ (∀ k, k < i → k < n → ds[k]? = some (f k)) ∧ (i < n → ds[i]? = some c) ∧ ∀ k, i < k → k < n → ds[k]? = some 0

theorem Cnt.start (f : Nat → Int) (n : Nat) : Cnt f n (List.replicate n 0) 0 0 :=
  ⟨by simp, by omega, fun h => by simp [h], fun k _ h => by simp [h]⟩
theorem Cnt.set {f : Nat → Int} {n : Nat} {ds : List Int} {i : Nat} {c : Int} (h : Cnt f n ds i c) (c' : Int) : Cnt f n (ds.set i c') i c' := by
  obtain ⟨h1, h2, h3, h4⟩ := h
  refine ⟨by simpa using h1, fun k hk hn => ?_, fun hn => ?_, fun k hk hn => ?_⟩
  · rw [List.getElem?_set_ne (by omega)]; exact h2 k hk hn
  · rw [List.getElem?_set_self (by omega)]
  · rw [List.getElem?_set_ne (by omega)]; exact h4 k hk hn
theorem Cnt.next {f : Nat → Int} {n : Nat} {ds : List Int} {i : Nat} {c : Int} (h : Cnt f n ds i c) (hc : c = f i) : Cnt f n ds (i + 1) 0 := by
  obtain ⟨h1, h2, h3, h4⟩ := h
  refine ⟨h1, fun k hk hn => ?_, fun hn => h4 _ (by omega) hn, fun k hk hn => h4 k (by omega) hn⟩
  rcases Nat.lt_or_ge k i with h5 | h5
  · exact h2 k h5 hn
  · obtain rfl : k = i := by omega
    rw [h3 hn, hc]
theorem Cnt.done {f : Nat → Int} {n : Nat} {ds : List Int} {i : Nat} {c : Int} (h : Cnt f n ds i c) (hi : n ≤ i) : ds = (List.range n).map f := by
  obtain ⟨h1, h2, _, _⟩ := h
  apply List.ext_getElem?
  intro k
  rcases Nat.lt_or_ge k n with hk | hk
  · rw [h2 k (by omega) hk]; simp [hk]
  · rw [List.getElem?_eq_none (by omega), List.getElem?_eq_none (by simpa using hk)]
theorem Cnt.at {f : Nat → Int} {n : Nat} {ds : List Int} {i : Nat} {c : Int} (h : Cnt f n ds i c) (hi : i < n) : ds.getD i 0 = c := by
  rw [List.getD, h.2.2.1 hi]; rfl

theorem countP_range_succ (p : Nat → Bool) (n : Nat) : (List.range (n + 1)).countP p = (List.range n).countP p + if p n = true then 1 else 0 := by
  rw [List.range_succ, List.countP_append, List.countP_singleton]
theorem countP_range_le (p : Nat → Bool) (n : Nat) : (List.range n).countP p ≤ n := by
  have := List.countP_le_length (p := p) (l := List.range n)
  simpa using this

end Go.Proofs.Ytdhehffdddbmbaa

/-! ## MRanks -/

namespace Go.Proofs.Ytdhehffdddbmbaa

/-- The first h symbols of the suffix at i. -/
def fst (xs : List Int) (i h : Nat) : List Int := (xs.drop i).take h

theorem countP_le_of {α : Type} {p q : α → Bool} : ∀ {l : List α}, (∀ x ∈ l, p x = true → q x = true) → l.countP p ≤ l.countP q
  | [], _ => by simp
  | x :: r, h => by
    have ih := countP_le_of (l := r) (fun y hy => h y (List.mem_cons_of_mem _ hy))
    have hx := h x (List.mem_cons_self ..)
    rw [List.countP_cons, List.countP_cons]
    by_cases hp : p x = true
    · rw [if_pos hp, if_pos (hx hp)]; omega
    · rw [if_neg hp]; split <;> omega
theorem countP_lt_of {α : Type} {p q : α → Bool} : ∀ {l : List α}, (∀ x ∈ l, p x = true → q x = true) → (∃ x ∈ l, p x = false ∧ q x = true) → l.countP p < l.countP q
  | [], _, h => by obtain ⟨x, hx, _⟩ := h; simp at hx
  | x :: r, h, ⟨y, hy, h1, h2⟩ => by
    rw [List.countP_cons, List.countP_cons]
    have hr : ∀ z ∈ r, p z = true → q z = true := fun z hz => h z (List.mem_cons_of_mem _ hz)
    rcases List.mem_cons.1 hy with rfl | hy
    · have := countP_le_of hr
      rw [if_neg (by rw [h1]; simp), if_pos h2]; omega
    · have ih := countP_lt_of hr ⟨y, hy, h1, h2⟩
      by_cases hp : p x = true
      · rw [if_pos hp, if_pos (h x (List.mem_cons_self ..) hp)]; omega
      · rw [if_neg hp]; split <;> omega

/-- How many of the first n keys are lesser than the key of i. -/
def rkOf (n : Nat) (f : Nat → List Int) (i : Nat) : Nat := (List.range n).countP (fun j => lt (f j) (f i))

theorem rkOf_le (n : Nat) (f : Nat → List Int) (i : Nat) : rkOf n f i ≤ n := by
  have := List.countP_le_length (p := fun j => lt (f j) (f i)) (l := List.range n)
  simpa [rkOf] using this
theorem rkOf_mono {n : Nat} {f : Nat → List Int} {i j : Nat} (h : lt (f i) (f j) = false) : rkOf n f j ≤ rkOf n f i := by
  refine countP_le_of (fun _ _ hk => ?_)
  rcases lt_total (f i) (f j) with h1 | h1 | h1
  · rw [h] at h1; cases h1
  · exact lt_trans _ _ _ hk h1
  · rw [h1]; exact hk
theorem rkOf_lt {n : Nat} {f : Nat → List Int} {i j : Nat} (hj : j < n) (h : lt (f j) (f i) = true) : rkOf n f j < rkOf n f i :=
  countP_lt_of (fun _ _ hk => lt_trans _ _ _ hk h) ⟨j, List.mem_range.2 hj, lt_irrefl _, h⟩
theorem rkOf_lt_iff {n : Nat} {f : Nat → List Int} {i j : Nat} (hj : j < n) : rkOf n f j < rkOf n f i ↔ lt (f j) (f i) = true := by
  constructor
  · intro h
    cases e : lt (f j) (f i) with
    | true => rfl
    | false => have := rkOf_mono (n := n) e; omega
  · exact rkOf_lt hj
theorem rkOf_eq_iff {n : Nat} {f : Nat → List Int} {i j : Nat} (hi : i < n) (hj : j < n) : rkOf n f j = rkOf n f i ↔ f j = f i := by
  constructor
  · intro h
    rcases lt_total (f j) (f i) with h1 | h1 | h1
    · have := rkOf_lt hj h1; omega
    · have := rkOf_lt hi h1; omega
    · exact h1
  · intro h; unfold rkOf; rw [h]
theorem rkOf_bound {n : Nat} {f : Nat → List Int} {i : Nat} (hi : i < n) : rkOf n f i < n := by
  have := countP_lt_of (p := fun j => lt (f j) (f i)) (q := fun _ => true) (l := List.range n) (fun _ _ _ => rfl) ⟨i, List.mem_range.2 hi, lt_irrefl _, rfl⟩
  simpa [rkOf] using this

/-- P7. -/
def rk (xs : List Int) (h i : Nat) : Nat := rkOf xs.length (fun j => fst xs j h) i
def ranks (xs : List Int) (h : Nat) : List Int := (List.range xs.length).map (fun i => (rk xs h i : Int))
theorem ranks_length (xs : List Int) (h : Nat) : (ranks xs h).length = xs.length := by simp [ranks]
theorem ranks_at (xs : List Int) (h i : Nat) (hi : i < xs.length) : (ranks xs h).getD i 0 = rk xs h i := by simp [ranks, List.getD, hi]

theorem rk_lt_iff {xs : List Int} {h i j : Nat} (hj : j < xs.length) : rk xs h j < rk xs h i ↔ lt (fst xs j h) (fst xs i h) = true := rkOf_lt_iff hj
theorem rk_eq_iff {xs : List Int} {h i j : Nat} (hi : i < xs.length) (hj : j < xs.length) : rk xs h j = rk xs h i ↔ fst xs j h = fst xs i h := rkOf_eq_iff hi hj

/-- Lists that are cut alike: first the heads, then the tails. -/
theorem lt_cat : ∀ (u1 v1 u2 v2 : List Int) (x : Nat), u1.length ≤ x → v1.length ≤ x → (u1.length < x → u2 = []) → (v1.length < x → v2 = []) →
    lt (u1 ++ u2) (v1 ++ v2) = if u1 = v1 then lt u2 v2 else lt u1 v1
  | [], [], u2, v2, _, _, _, _, _ => by simp
  | [], b :: v, u2, v2, x, _, h2, h3, _ => by
    have : u2 = [] := h3 (by simp at h2 ⊢; omega)
    subst this
    simp [lt]
  | a :: u, [], u2, v2, x, h1, _, _, h4 => by
    have : v2 = [] := h4 (by simp at h1 ⊢; omega)
    subst this
    simp [lt]
  | a :: u, b :: v, u2, v2, x, h1, h2, h3, h4 => by
    simp only [List.cons_append, lt_cons]
    by_cases e : a = b
    · subst e
      simp only [List.length_cons] at h1 h2 h3 h4
      rw [if_pos rfl, if_pos rfl, lt_cat u v u2 v2 (x - 1) (by omega) (by omega) (fun h => h3 (by omega)) (fun h => h4 (by omega))]
      by_cases e2 : u = v
      · subst e2; rw [if_pos rfl, if_pos rfl]
      · rw [if_neg e2, if_neg (by simpa using e2)]
    · rw [if_neg e, if_neg e, if_neg (by simp [e])]

theorem fst_add (xs : List Int) (i x y : Nat) : fst xs i (x + y) = fst xs i x ++ fst xs (i + x) y := by
  unfold fst
  rw [List.take_add, List.drop_drop]

/-- Ranks by x + y symbols are those of the pairs. -/
theorem lt_fst_add (xs : List Int) (i j x y : Nat) : lt (fst xs j (x + y)) (fst xs i (x + y)) = if fst xs j x = fst xs i x then lt (fst xs (j + x) y) (fst xs (i + x) y) else lt (fst xs j x) (fst xs i x) := by
  rw [fst_add, fst_add]
  refine lt_cat _ _ _ _ x (List.length_take_le _ _) (List.length_take_le _ _) (fun h => ?_) (fun h => ?_)
  · unfold fst at h ⊢
    rw [List.drop_eq_nil_of_le (by simp at h; omega), List.take_nil]
  · unfold fst at h ⊢
    rw [List.drop_eq_nil_of_le (by simp at h; omega), List.take_nil]

theorem fst_whole {xs : List Int} {i h : Nat} (hh : xs.length ≤ i + h) : fst xs i h = xs.drop i := by
  unfold fst
  exact List.take_of_length_le (by simp; omega)

/-- The rank at a place; -1 behind the end. -/
def pr (xs : List Int) (y i : Nat) : Int := if i < xs.length then (rk xs y i : Int) else -1
theorem pr_in {xs : List Int} {y i : Nat} (h : i < xs.length) : pr xs y i = rk xs y i := if_pos h
theorem pr_out {xs : List Int} {y i : Nat} (h : ¬ i < xs.length) : pr xs y i = -1 := if_neg h

/-- Ranks by x + y symbols, out of those by x and by y. -/
theorem dbl_iff {xs : List Int} {x y i j : Nat} (hi : i < xs.length) (hj : j < xs.length) : lt (fst xs j (x + y)) (fst xs i (x + y)) = true ↔ rk xs x j < rk xs x i ∨ (rk xs x j = rk xs x i ∧ 0 < y ∧ pr xs y (j + x) < pr xs y (i + x)) := by
  rw [lt_fst_add]
  by_cases he : fst xs j x = fst xs i x
  · rw [if_pos he]
    have hr := (rk_eq_iff hi hj).2 he
    rcases Nat.eq_zero_or_pos y with rfl | hy
    · simp [fst, lt, hr]
    · have hgoal : lt (fst xs (j + x) y) (fst xs (i + x) y) = true ↔ pr xs y (j + x) < pr xs y (i + x) := by
        by_cases h1 : i + x < xs.length
        · by_cases h2 : j + x < xs.length
          · rw [pr_in h1, pr_in h2, ← rk_lt_iff h2]; omega
          · rw [pr_in h1, pr_out h2]
            have e1 : fst xs (j + x) y = [] := by unfold fst; rw [List.drop_eq_nil_of_le (by omega), List.take_nil]
            rw [e1, lt_nil]
            constructor
            · intro _; omega
            · intro _; simp [fst]; omega
        · rw [pr_out h1]
          have e1 : fst xs (i + x) y = [] := by unfold fst; rw [List.drop_eq_nil_of_le (by omega), List.take_nil]
          rw [e1, lt_to_nil]
          constructor
          · intro h; cases h
          · intro h
            by_cases h2 : j + x < xs.length
            · rw [pr_in h2] at h; omega
            · rw [pr_out h2] at h; omega
      rw [hgoal]
      constructor
      · intro h; exact .inr ⟨hr, hy, h⟩
      · rintro (h | ⟨_, _, h⟩)
        · omega
        · exact h
  · rw [if_neg he]
    have hr : ¬ rk xs x j = rk xs x i := fun h => he ((rk_eq_iff hi hj).1 h)
    rw [← rk_lt_iff hj]
    constructor
    · exact .inl
    · rintro (h | ⟨h, _⟩)
      · exact h
      · exact absurd h hr

end Go.Proofs.Ytdhehffdddbmbaa

/-! ## MShared -/

namespace Go.Proofs.Ytdhehffdddbmbaa

/-- How many symbols two lists have in common from the left on. -/
def com : List Int → List Int → Nat
  | x :: r, y :: s => if x = y then com r s + 1 else 0
  | _, _ => 0

theorem com_cons (x y : Int) (r s : List Int) : com (x :: r) (y :: s) = if x = y then com r s + 1 else 0 := by rw [com]
theorem com_nil (s : List Int) : com [] s = 0 := by simp [com]
theorem com_to_nil (s : List Int) : com s [] = 0 := by cases s <;> simp [com]
theorem com_le : ∀ a b : List Int, com a b ≤ a.length
  | [], b => by rw [com_nil]; exact Nat.zero_le _
  | x :: r, [] => by rw [com_to_nil]; exact Nat.zero_le _
  | x :: r, y :: s => by
    rw [com_cons]
    split
    · have := com_le r s; simp; omega
    · exact Nat.zero_le _
theorem com_comm : ∀ a b : List Int, com a b = com b a
  | [], b => by rw [com_nil, com_to_nil]
  | x :: r, [] => by rw [com_nil, com_to_nil]
  | x :: r, y :: s => by
    rw [com_cons, com_cons, com_comm r s]
    by_cases e : x = y
    · subst e; rfl
    · rw [if_neg e, if_neg (fun h => e h.symm)]

/-- Of three rising lists the outer two have no more in common than the last two. -/
theorem com_between : ∀ a b c : List Int, (lt a b = true ∨ a = b) → lt b c = true → com a c ≤ com b c
  | [], b, c, _, _ => by rw [com_nil]; exact Nat.zero_le _
  | x :: r, [], c, h, _ => by rcases h with h | h <;> simp [lt] at h
  | x :: r, y :: s, [], _, h => by simp [lt] at h
  | x :: r, y :: s, z :: t, h1, h2 => by
    rw [com_cons, com_cons]
    by_cases e : x = z
    · subst e
      have hy : y = x := by
        rw [lt_cons] at h2
        rcases h1 with h1 | h1
        · rw [lt_cons] at h1
          by_cases e1 : x = y
          · exact e1.symm
          · rw [if_neg e1] at h1
            rw [if_neg (fun h => e1 h.symm)] at h2
            simp at h1 h2; omega
        · simp at h1; exact h1.1.symm
      subst hy
      rw [if_pos rfl, if_pos rfl]
      rw [lt_cons, if_pos rfl] at h2
      have := com_between r s t (by
        rcases h1 with h1 | h1
        · rw [lt_cons, if_pos rfl] at h1; exact .inl h1
        · simp at h1; exact .inr h1) h2
      omega
    · rw [if_neg e]; exact Nat.zero_le _
theorem com_between' : ∀ a b c : List Int, lt a b = true → (lt b c = true ∨ b = c) → com a c ≤ com a b
  | [], b, c, _, _ => by rw [com_nil]; exact Nat.zero_le _
  | x :: r, [], c, h, _ => by simp [lt] at h
  | x :: r, y :: s, [], _, h => by rw [com_to_nil]; exact Nat.zero_le _
  | x :: r, y :: s, z :: t, h1, h2 => by
    rw [com_cons, com_cons]
    by_cases e : x = z
    · subst e
      have hy : x = y := by
        rw [lt_cons] at h1
        by_cases e1 : x = y
        · exact e1
        · rw [if_neg e1] at h1
          rcases h2 with h2 | h2
          · rw [lt_cons, if_neg (fun h => e1 h.symm)] at h2
            simp at h1 h2; omega
          · simp at h2; exact h2.1.symm
      subst hy
      rw [if_pos rfl, if_pos rfl]
      rw [lt_cons, if_pos rfl] at h1
      have := com_between' r s t h1 (by
        rcases h2 with h2 | h2
        · rw [lt_cons, if_pos rfl] at h2; exact .inl h2
        · simp at h2; exact .inr h2)
      omega
    · rw [if_neg e]; exact Nat.zero_le _

/-- What the suffixes at i and j have in common. -/
def cm (xs : List Int) (i j : Nat) : Nat := com (xs.drop i) (xs.drop j)
theorem cm_step {xs : List Int} {i j : Nat} (hi : i < xs.length) (hj : j < xs.length) (h : xs[i] = xs[j]) : cm xs i j = cm xs (i + 1) (j + 1) + 1 := by
  unfold cm
  rw [List.drop_eq_getElem_cons hi, List.drop_eq_getElem_cons hj, com_cons, if_pos h]
theorem cm_stop {xs : List Int} {i j : Nat} (hi : i < xs.length) (hj : j < xs.length) (h : ¬ xs[i] = xs[j]) : cm xs i j = 0 := by
  unfold cm
  rw [List.drop_eq_getElem_cons hi, List.drop_eq_getElem_cons hj, com_cons, if_neg h]
theorem cm_end_left {xs : List Int} {i j : Nat} (hi : xs.length ≤ i) : cm xs i j = 0 := by
  unfold cm; rw [List.drop_eq_nil_of_le hi, com_nil]
theorem cm_end_right {xs : List Int} {i j : Nat} (hj : xs.length ≤ j) : cm xs i j = 0 := by
  unfold cm; rw [List.drop_eq_nil_of_le hj, com_to_nil]
theorem cm_le (xs : List Int) (i j : Nat) : cm xs i j ≤ xs.length - i := by
  have := com_le (xs.drop i) (xs.drop j)
  simpa [cm] using this
theorem cm_comm (xs : List Int) (i j : Nat) : cm xs i j = cm xs j i := com_comm _ _

/-- P9, of any list of places. -/
def sharedAt (xs os : List Int) (i : Nat) : Int := if i = 0 then 0 else cm xs (os.getD (i - 1) 0).toNat (os.getD i 0).toNat
def shared (xs os : List Int) : List Int := (List.range os.length).map (sharedAt xs os)
theorem shared_length (xs os : List Int) : (shared xs os).length = os.length := by simp [shared]
theorem shared_at {xs os : List Int} {i : Nat} (h : i < os.length) : (shared xs os)[i]? = some (sharedAt xs os i) := by simp [shared, h]

/-- P11: who stands ahead in the order; -1 for the first. -/
def beforeAt (L : List Int) (i : Nat) : Int := if i = 0 then -1 else L.getD (i - 1) 0
/-- The list of Before: at the place that stands i-th in the order stands the one ahead of it. -/
def IsBefore (xs L bs : List Int) : Prop := bs.length = xs.length ∧ ∀ i, i < L.length → bs[(L.getD i 0).toNat]? = some (beforeAt L i)

theorem OrdTo.at {xs L : List Int} {n : Nat} (h : OrdTo xs L n) {i : Nat} (hi : i < n) : 0 ≤ L.getD i 0 ∧ L.getD i 0 < n := by
  have hl := h.length
  have : L.getD i 0 ∈ L := by
    rw [List.getD, List.getElem?_eq_getElem (by omega)]
    exact List.getElem_mem _
  exact (h.2 _).1 this
theorem OrdTo.inj {xs L : List Int} {n : Nat} (h : OrdTo xs L n) {i j : Nat} (hi : i < n) (hj : j < n) (he : L.getD i 0 = L.getD j 0) : i = j := by
  have hl := h.length
  simp only [List.getD, List.getElem?_eq_getElem (show i < L.length by omega), List.getElem?_eq_getElem (show j < L.length by omega), Option.getD_some] at he
  rcases Nat.lt_trichotomy i j with h1 | h1 | h1
  · exact absurd he (List.pairwise_iff_getElem.1 h.nodup i j (by omega) (by omega) h1)
  · exact h1
  · exact absurd he.symm (List.pairwise_iff_getElem.1 h.nodup j i (by omega) (by omega) h1)
theorem OrdTo.place {xs L : List Int} {n : Nat} (h : OrdTo xs L n) {p : Nat} (hp : p < n) : ∃ i, i < n ∧ L.getD i 0 = p := by
  have hl := h.length
  obtain ⟨i, hi, he⟩ := List.getElem_of_mem ((h.2 (p : Int)).2 ⟨by omega, by omega⟩)
  exact ⟨i, by omega, by rw [List.getD, List.getElem?_eq_getElem hi]; exact he⟩

theorem IsBefore.unique {xs L bs bs' : List Int} (hO : Ord xs L) (h : IsBefore xs L bs) (h' : IsBefore xs L bs') : bs = bs' := by
  apply List.ext_getElem?
  intro p
  rcases Nat.lt_or_ge p xs.length with hp | hp
  · obtain ⟨i, hi, he⟩ := OrdTo.place hO hp
    have h1 := h.2 i (by rw [OrdTo.length hO]; exact hi)
    have h2 := h'.2 i (by rw [OrdTo.length hO]; exact hi)
    rw [he] at h1 h2
    simp only [Int.toNat_natCast] at h1 h2
    rw [h1, h2]
  · rw [List.getElem?_eq_none (by rw [h.1]; exact hp), List.getElem?_eq_none (by rw [h'.1]; exact hp)]

end Go.Proofs.Ytdhehffdddbmbaa

/-! ## MPos -/

namespace Go.Proofs.Ytdhehffdddbmbaa

/-- Where the place p stands in the list. -/
def ps (L : List Int) (p : Nat) : Nat := L.findIdx (fun q => q == (p : Int))

section
variable {xs L : List Int} (hO : Ord xs L)
include hO

theorem ps_lt {p : Nat} (hp : p < xs.length) : ps L p < xs.length := by
  have hm := (hO.2 (p : Int)).2 ⟨by omega, by omega⟩
  have h := List.findIdx_lt_length_of_exists (p := fun q => q == (p : Int)) (xs := L) ⟨(p : Int), hm, by simp⟩
  rw [OrdTo.length hO] at h
  exact h
theorem ps_at {p : Nat} (hp : p < xs.length) : L.getD (ps L p) 0 = p := by
  have h := ps_lt hO hp
  rw [← OrdTo.length hO] at h
  have h2 := List.findIdx_getElem (w := h)
  rw [List.getD, List.getElem?_eq_getElem h]
  exact eq_of_beq h2
theorem ps_of {i : Nat} (hi : i < xs.length) : ps L (L.getD i 0).toNat = i := by
  have h := OrdTo.at hO hi
  refine OrdTo.inj hO (ps_lt hO (by omega)) hi ?_
  rw [ps_at hO (by omega)]; omega
theorem ps_inj {p q : Nat} (hp : p < xs.length) (hq : q < xs.length) (h : ps L p = ps L q) : p = q := by
  have h1 := ps_at hO hp
  have h2 := ps_at hO hq
  rw [h, h2] at h1
  omega

theorem ord_lt {i j : Nat} (hij : i < j) (hj : j < xs.length) : lt (xs.drop (L.getD i 0).toNat) (xs.drop (L.getD j 0).toNat) = true := by
  have hl := OrdTo.length hO
  have h := List.pairwise_iff_getElem.1 hO.1 i j (by omega) (by omega) hij
  simp only [List.getD, List.getElem?_eq_getElem (show i < L.length by omega), List.getElem?_eq_getElem (show j < L.length by omega), Option.getD_some]
  exact h
theorem ord_lt_iff {i j : Nat} (hi : i < xs.length) (hj : j < xs.length) : lt (xs.drop (L.getD i 0).toNat) (xs.drop (L.getD j 0).toNat) = true ↔ i < j := by
  constructor
  · intro h
    rcases Nat.lt_trichotomy i j with h1 | h1 | h1
    · exact h1
    · subst h1; rw [lt_irrefl] at h; cases h
    · have := lt_asymm _ _ (ord_lt hO h1 hi); rw [h] at this; cases this
  · intro h; exact ord_lt hO h hj
theorem ps_lt_iff {p q : Nat} (hp : p < xs.length) (hq : q < xs.length) : lt (xs.drop p) (xs.drop q) = true ↔ ps L p < ps L q := by
  have h := ord_lt_iff hO (ps_lt hO hp) (ps_lt hO hq)
  rwa [ps_at hO hp, ps_at hO hq, Int.toNat_natCast, Int.toNat_natCast] at h

/-- What is lesser than p is no greater than the one just ahead of p. -/
theorem pred_le {p q : Nat} (hp : p < xs.length) (hq : q < xs.length) (h : lt (xs.drop q) (xs.drop p) = true) :
    lt (xs.drop q) (xs.drop (L.getD (ps L p - 1) 0).toNat) = true ∨ xs.drop q = xs.drop (L.getD (ps L p - 1) 0).toNat := by
  have h1 := (ps_lt_iff hO hq hp).1 h
  have hpl := ps_lt hO hp
  rcases Nat.lt_or_ge (ps L q) (ps L p - 1) with h2 | h2
  · left
    have := ord_lt hO h2 (by omega)
    rwa [ps_at hO hq, Int.toNat_natCast] at this
  · right
    have : ps L q = ps L p - 1 := by omega
    rw [← this, ps_at hO hq, Int.toNat_natCast]
end

/-- What the suffix at p shares with the one ahead of it in the order. -/
def lg (xs L : List Int) (p : Nat) : Nat := if ps L p = 0 then 0 else cm xs p (L.getD (ps L p - 1) 0).toNat

theorem sharedAt_ps {xs L : List Int} (hO : Ord xs L) {p : Nat} (hp : p < xs.length) : sharedAt xs L (ps L p) = lg xs L p := by
  unfold sharedAt lg
  rw [ps_at hO hp, Int.toNat_natCast]
  split
  · rfl
  · rw [cm_comm]
theorem shared_ps {xs L : List Int} (hO : Ord xs L) {p : Nat} (hp : p < xs.length) : (shared xs L)[ps L p]? = some (lg xs L p : Int) := by
  rw [shared_at (by rw [OrdTo.length hO]; exact ps_lt hO hp), sharedAt_ps hO hp]
theorem lg_le (xs L : List Int) (p : Nat) : lg xs L p ≤ xs.length - p := by
  unfold lg
  split
  · exact Nat.zero_le _
  · exact cm_le _ _ _

/-- From one place to the next at most one symbol less is shared. -/
theorem lg_next {xs L : List Int} (hO : Ord xs L) {p : Nat} (hp : p + 1 < xs.length) (h0 : ps L (p + 1) ≠ 0) : lg xs L p - 1 ≤ cm xs (p + 1) (L.getD (ps L (p + 1) - 1) 0).toNat := by
  unfold lg
  split
  · simp
  · rename_i h1
    have hpl := ps_lt hO (p := p) (by omega)
    have hpl2 := ps_lt hO hp
    have hat := OrdTo.at hO (i := ps L p - 1) (by omega)
    obtain ⟨b, hb⟩ : ∃ b : Nat, L.getD (ps L p - 1) 0 = b := ⟨(L.getD (ps L p - 1) 0).toNat, by omega⟩
    have hbn : b < xs.length := by omega
    have hpn : p < xs.length := by omega
    have hlt := ord_lt hO (i := ps L p - 1) (j := ps L p) (by omega) hpl
    rw [hb, ps_at hO hpn, Int.toNat_natCast, Int.toNat_natCast] at hlt
    rw [hb, Int.toNat_natCast]
    by_cases hx : xs[p] = xs[b]
    · rw [cm_step hpn hbn hx, Nat.add_sub_cancel]
      rw [List.drop_eq_getElem_cons hbn, List.drop_eq_getElem_cons hpn, lt_cons, if_pos hx.symm] at hlt
      rcases Nat.lt_or_ge (b + 1) xs.length with hb1 | hb1
      · rw [cm_comm xs (p + 1) (b + 1), cm_comm xs (p + 1)]
        refine com_between _ _ _ (pred_le hO hp hb1 hlt) ?_
        have := ord_lt hO (i := ps L (p + 1) - 1) (j := ps L (p + 1)) (by omega) hpl2
        rwa [ps_at hO hp, Int.toNat_natCast] at this
      · rw [cm_end_right hb1]; exact Nat.zero_le _
    · rw [cm_stop hpn hbn hx]; exact Nat.zero_le _

/-- A list of different places, each of them once. -/
structure Plc (n : Nat) (K : List Int) : Prop where
  len : K.length = n
  ran : ∀ i, i < n → 0 ≤ K.getD i 0 ∧ K.getD i 0 < n
  inj : ∀ i j, i < n → j < n → K.getD i 0 = K.getD j 0 → i = j
  sur : ∀ p, p < n → ∃ i, i < n ∧ K.getD i 0 = (p : Int)

theorem Plc.ord {xs L : List Int} (hO : Ord xs L) : Plc xs.length L :=
  ⟨OrdTo.length hO, fun _ h => OrdTo.at hO h, fun _ _ h h2 => OrdTo.inj hO h h2, fun _ h => OrdTo.place hO h⟩

/-- For each place where it stands in the order. -/
def poss (L : List Int) (n : Nat) : List Int := (List.range n).map (fun p => (ps L p : Int))
theorem poss_length (L : List Int) (n : Nat) : (poss L n).length = n := by simp [poss]
theorem poss_at (L : List Int) {n p : Nat} (h : p < n) : (poss L n).getD p 0 = ps L p := by simp [poss, List.getD, h]
theorem Plc.poss {xs L : List Int} (hO : Ord xs L) : Plc xs.length (poss L xs.length) := by
  refine ⟨poss_length _ _, fun i h => ?_, fun i j h h2 he => ?_, fun p h => ?_⟩
  · rw [poss_at L h]; have := ps_lt hO h; omega
  · rw [poss_at L h, poss_at L h2] at he; exact ps_inj hO h h2 (by omega)
  · have := OrdTo.at hO h
    exact ⟨(L.getD p 0).toNat, by omega, by rw [poss_at L (by omega), ps_of hO h]⟩

/-- At the first k of the places stand the numbers g. -/
def Fill (n : Nat) (K : List Int) (g : Nat → Int) (ds : List Int) (k : Nat) : Prop := ds.length = n ∧ ∀ i, i < k → ds[(K.getD i 0).toNat]? = some (g i)
theorem Fill.start (n : Nat) (K : List Int) (g : Nat → Int) : Fill n K g (List.replicate n 0) 0 := ⟨by simp, fun i h => by omega⟩
theorem Fill.step {n : Nat} {K : List Int} {g : Nat → Int} {ds : List Int} {k p : Nat} {z : Int} (hK : Plc n K) (h : Fill n K g ds k) (hk : k < n) (hp : K.getD k 0 = p) (hz : z = g k) : Fill n K g (ds.set p z) (k + 1) := by
  obtain ⟨h1, h2⟩ := h
  have hpl := hK.ran k hk
  refine ⟨by simpa using h1, fun i hi => ?_⟩
  rcases Nat.lt_or_ge i k with h | h
  · rw [List.getElem?_set_ne]
    · exact h2 i h
    · intro e
      have hi2 := hK.ran i (by omega)
      have := hK.inj i k (by omega) hk (by omega)
      omega
  · obtain rfl : i = k := by omega
    rw [hp, Int.toNat_natCast, List.getElem?_set_self (by omega), hz]
theorem Fill.done {n : Nat} {K T : List Int} {g : Nat → Int} {ds : List Int} {k : Nat} (hK : Plc n K) (h : Fill n K g ds k) (hk : n ≤ k) (hl : T.length = n) (hT : ∀ i, i < n → T[(K.getD i 0).toNat]? = some (g i)) : ds = T := by
  apply List.ext_getElem?
  intro p
  rcases Nat.lt_or_ge p n with hp | hp
  · obtain ⟨i, hi, he⟩ := hK.sur p hp
    have h1 := h.2 i (by omega)
    have h2 := hT i hi
    rw [he, Int.toNat_natCast] at h1 h2
    rw [h1, h2]
  · rw [List.getElem?_eq_none (by rw [h.1]; exact hp), List.getElem?_eq_none (by rw [hl]; exact hp)]

/-! ### Ranks that are all different -/

theorem lt_fst_lt {xs : List Int} {i j h : Nat} (e : lt (fst xs j h) (fst xs i h) = true) : lt (xs.drop j) (xs.drop i) = true := by
  have h2 := lt_fst_add xs i j h xs.length
  rw [fst_whole (by omega), fst_whole (by omega), if_neg (fun he => by rw [he, lt_irrefl] at e; cases e)] at h2
  rw [h2]; exact e

/-- Are all beginnings different, they stand as the suffixes do. -/
theorem lt_fst_iff {xs : List Int} {i j h : Nat} (hi : i < xs.length) (hj : j < xs.length) (hd : i ≠ j → rk xs h i ≠ rk xs h j) : lt (fst xs j h) (fst xs i h) = lt (xs.drop j) (xs.drop i) := by
  cases e : lt (fst xs j h) (fst xs i h) with
  | true => exact (lt_fst_lt e).symm
  | false =>
    rcases Classical.em (i = j) with rfl | hne
    · rw [lt_irrefl]
    · rcases lt_total (fst xs j h) (fst xs i h) with h1 | h1 | h1
      · rw [e] at h1; cases h1
      · exact (lt_asymm _ _ (lt_fst_lt h1)).symm
      · exact absurd ((rk_eq_iff hj hi).2 h1.symm) (hd hne)

theorem countP_sorted {xs : List Int} : ∀ {L : List Int} {i : Nat}, L.Pairwise (sl xs) → i < L.length → L.countP (fun q => lt (xs.drop q.toNat) (xs.drop (L.getD i 0).toNat)) = i
  | [], i, _, h => by simp at h
  | x :: r, 0, hp, _ => by
    rw [List.countP_eq_zero]
    intro q hq
    simp only [List.getD_cons_zero]
    rcases List.mem_cons.1 hq with rfl | hq
    · rw [lt_irrefl]; simp
    · have := (List.pairwise_cons.1 hp).1 q hq
      rw [lt_asymm _ _ this]; simp
  | x :: r, i + 1, hp, h => by
    have hp2 := List.pairwise_cons.1 hp
    simp only [List.length_cons] at h
    have hi : i < r.length := by omega
    have ih := countP_sorted (L := r) hp2.2 hi
    simp only [List.getD_cons_succ]
    rw [List.countP_cons, ih, if_pos]
    refine hp2.1 _ ?_
    rw [List.getD, List.getElem?_eq_getElem hi]
    exact List.getElem_mem _

theorem rk_ps {xs L : List Int} (hO : Ord xs L) {h p : Nat} (hd : (ranks xs h).Nodup) (hp : p < xs.length) : rk xs h p = ps L p := by
  have hdd : ∀ i j, i < xs.length → j < xs.length → i ≠ j → rk xs h i ≠ rk xs h j := by
    intro i j hi hj hne he
    have hdp := List.pairwise_iff_getElem.1 hd
    rcases Nat.lt_or_ge i j with h1 | h1
    · exact hdp i j (by rw [ranks_length]; exact hi) (by rw [ranks_length]; exact hj) h1 (by simp [ranks, he])
    · exact hdp j i (by rw [ranks_length]; exact hj) (by rw [ranks_length]; exact hi) (by omega) (by simp [ranks, he])
  have h1 : rk xs h p = (List.range xs.length).countP (fun j => lt (xs.drop j) (xs.drop p)) := by
    unfold rk rkOf
    refine List.countP_congr (fun j hj => ?_)
    rw [lt_fst_iff hp (List.mem_range.1 hj) (hdd p j hp (List.mem_range.1 hj))]
  have h2 : (places xs.length).countP (fun q => lt (xs.drop q.toNat) (xs.drop p)) = (List.range xs.length).countP (fun j => lt (xs.drop j) (xs.drop p)) := by
    unfold places
    rw [List.countP_map]
    rfl
  rw [h1, ← h2, ← hO.perm.countP_eq]
  have h3 := countP_sorted hO.1 (i := ps L p) (by rw [OrdTo.length hO]; exact ps_lt hO hp)
  rwa [ps_at hO hp, Int.toNat_natCast] at h3
theorem ranks_poss {xs L : List Int} (hO : Ord xs L) {h : Nat} (hd : (ranks xs h).Nodup) : ranks xs h = poss L xs.length := by
  unfold ranks poss
  refine List.map_congr_left (fun p hp => ?_)
  rw [rk_ps hO hd (List.mem_range.1 hp)]

theorem ord_poss {xs L : List Int} (hO : Ord xs L) (i : Nat) (hi : i < xs.length) : L[((poss L xs.length).getD i 0).toNat]? = some (i : Int) := by
  rw [poss_at L hi, Int.toNat_natCast]
  have h := ps_lt hO hi
  have h2 := ps_at hO hi
  have hl := OrdTo.length hO
  rw [List.getD, List.getElem?_eq_getElem (by omega), Option.getD_some] at h2
  rw [List.getElem?_eq_getElem (by omega), h2]
theorem poss_ord {xs L : List Int} (hO : Ord xs L) (i : Nat) (hi : i < xs.length) : (poss L xs.length)[(L.getD i 0).toNat]? = some (i : Int) := by
  have h := OrdTo.at hO hi
  have := ps_of hO hi
  simp only [poss, List.getElem?_map]
  rw [List.getElem?_range (by omega), Option.map_some, this]

end Go.Proofs.Ytdhehffdddbmbaa
