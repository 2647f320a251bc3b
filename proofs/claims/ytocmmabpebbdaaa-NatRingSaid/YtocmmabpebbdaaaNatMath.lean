/- Natural numbers as lists of words: values, normal forms, the arithmetic of carries. No program is named here. -/
namespace Go.Proofs.Ytocmmabpebbdaaa

/-- 2^64 -/
def W64 : Nat := 18446744073709551616
theorem W64_eq : W64 = 18446744073709551616 := rfl
theorem W64_pos : 0 < W64 := by rw [W64_eq]; omega

def val : List Nat → Nat
  | [] => 0
  | x :: xs => x + W64 * val xs

/-- each word is below 2^64 -/
def Wf (xs : List Nat) : Prop := ∀ x, x ∈ xs → x < W64

/-- without the noughts at its end -/
def norm : List Nat → List Nat
  | [] => []
  | x :: xs => if norm xs = [] ∧ x = 0 then [] else x :: norm xs

def toWf : Nat → Nat → List Nat
  | 0, _ => []
  | f + 1, n => if n = 0 then [] else n % W64 :: toWf f (n / W64)
/-- the words of a number -/
def toW (n : Nat) : List Nat := toWf n n

theorem val_nil : val [] = 0 := rfl
theorem val_cons (x : Nat) (xs : List Nat) : val (x :: xs) = x + W64 * val xs := rfl
theorem Wf.nil : Wf [] := fun _ h => by cases h
theorem Wf.cons {x : Nat} {xs : List Nat} (hx : x < W64) (h : Wf xs) : Wf (x :: xs) := by
  intro y hy
  cases hy with
  | head => exact hx
  | tail _ hy => exact h y hy
theorem Wf.head {x : Nat} {xs : List Nat} (h : Wf (x :: xs)) : x < W64 := h x List.mem_cons_self
theorem Wf.tail {x : Nat} {xs : List Nat} (h : Wf (x :: xs)) : Wf xs := fun y hy => h y (List.mem_cons_of_mem _ hy)
theorem Wf.append {xs ys : List Nat} (h : Wf xs) (k : Wf ys) : Wf (xs ++ ys) := by
  intro y hy
  rcases List.mem_append.1 hy with hy | hy
  · exact h y hy
  · exact k y hy
theorem Wf.take {xs : List Nat} (h : Wf xs) (n : Nat) : Wf (xs.take n) := fun y hy => h y (List.mem_of_mem_take hy)
theorem Wf.drop {xs : List Nat} (h : Wf xs) (n : Nat) : Wf (xs.drop n) := fun y hy => h y (List.mem_of_mem_drop hy)
theorem Wf.getD {xs : List Nat} (h : Wf xs) (i : Nat) : xs.getD i 0 < W64 := by
  rw [List.getD_eq_getElem?_getD]
  by_cases hi : i < xs.length
  · rw [List.getElem?_eq_getElem hi]; exact h _ (List.getElem_mem hi)
  · rw [List.getElem?_eq_none (by omega)]; exact W64_pos
theorem Wf.set {xs : List Nat} (h : Wf xs) (i v : Nat) (hv : v < W64) : Wf (xs.set i v) := by
  intro y hy
  rcases List.mem_or_eq_of_mem_set hy with hy | hy
  · exact h y hy
  · rw [hy]; exact hv
theorem Wf.zeros (n : Nat) : Wf (List.replicate n 0) := fun y hy => by rw [(List.mem_replicate.1 hy).2]; exact W64_pos

theorem val_append (xs ys : List Nat) : val (xs ++ ys) = val xs + W64 ^ xs.length * val ys := by
  induction xs with
  | nil => simp [val]
  | cons x xs ih => rw [List.cons_append, val_cons, ih, val_cons, List.length_cons, Nat.pow_succ, Nat.mul_add, Nat.add_assoc, Nat.mul_comm (W64 ^ xs.length) W64, Nat.mul_assoc]
theorem val_zeros (n : Nat) : val (List.replicate n 0) = 0 := by
  induction n with
  | zero => rfl
  | succ n ih => rw [List.replicate_succ, val_cons, ih]; simp
theorem val_lt {xs : List Nat} (h : Wf xs) : val xs < W64 ^ xs.length := by
  induction xs with
  | nil => simp [val]
  | cons x xs ih =>
    have h1 := ih h.tail
    have h2 := h.head
    rw [val_cons, List.length_cons, Nat.pow_succ, Nat.mul_comm _ W64]
    have h3 : W64 * (val xs + 1) ≤ W64 * W64 ^ xs.length := Nat.mul_le_mul_left _ h1
    rw [Nat.mul_add] at h3
    omega
theorem val_take_drop (xs : List Nat) (k : Nat) (hk : k ≤ xs.length) : val xs = val (xs.take k) + W64 ^ k * val (xs.drop k) := by
  have h := val_append (xs.take k) (xs.drop k)
  rw [List.take_append_drop, List.length_take, Nat.min_eq_left hk] at h
  exact h
theorem val_take_succ (xs : List Nat) (k : Nat) (hk : k < xs.length) : val (xs.take (k + 1)) = val (xs.take k) + W64 ^ k * xs.getD k 0 := by
  rw [List.take_succ_eq_append_getElem hk, val_append, List.length_take, Nat.min_eq_left (by omega), List.getD_eq_getElem?_getD, List.getElem?_eq_getElem hk]
  simp [val]
/-- words beyond the list are 0 -/
theorem val_take_succ_any (xs : List Nat) (k : Nat) : val (xs.take (k + 1)) = val (xs.take k) + W64 ^ k * xs.getD k 0 := by
  by_cases hk : k < xs.length
  · exact val_take_succ xs k hk
  · rw [List.take_of_length_le (by omega), List.take_of_length_le (by omega), List.getD_eq_getElem?_getD, List.getElem?_eq_none (by omega)]
    simp

theorem norm_wf {xs : List Nat} (h : Wf xs) : Wf (norm xs) := by
  induction xs with
  | nil => exact Wf.nil
  | cons x xs ih =>
    unfold norm
    split
    · exact Wf.nil
    · exact Wf.cons h.head (ih h.tail)
theorem norm_val (xs : List Nat) : val (norm xs) = val xs := by
  induction xs with
  | nil => rfl
  | cons x xs ih =>
    unfold norm
    split
    · rename_i h
      rw [val_cons, ← ih, h.1, h.2]; simp [val]
    · rw [val_cons, val_cons, ih]
theorem norm_length_le (xs : List Nat) : (norm xs).length ≤ xs.length := by
  induction xs with
  | nil => exact Nat.le_refl _
  | cons x xs ih =>
    unfold norm
    split
    · simp
    · simp; exact ih
theorem norm_take (xs : List Nat) : norm xs = xs.take (norm xs).length := by
  induction xs with
  | nil => rfl
  | cons x xs ih =>
    unfold norm
    split
    · rfl
    · rw [List.length_cons, List.take_succ_cons, ← ih]
theorem norm_eq_nil {xs : List Nat} : norm xs = [] ↔ val xs = 0 := by
  induction xs with
  | nil => simp [norm, val]
  | cons x xs ih =>
    have hp := W64_pos
    unfold norm
    rw [val_cons]
    constructor
    · intro h
      split at h
      · rename_i h'; rw [ih] at h'; rw [h'.1, h'.2]; simp
      · cases h
    · intro h
      have h1 : x = 0 := by omega
      have h2 : W64 * val xs = 0 := by omega
      have h3 : val xs = 0 := by
        rcases Nat.mul_eq_zero.1 h2 with h | h
        · omega
        · exact h
      rw [if_pos ⟨ih.2 h3, h1⟩]
theorem toWf_fuel (f n : Nat) (h : n ≤ f) : toWf f n = toW n := by
  unfold toW
  induction f using Nat.strongRecOn generalizing n with
  | _ f ih =>
    cases f with
    | zero => obtain rfl : n = 0 := by omega
              rfl
    | succ f =>
      cases n with
      | zero => simp [toWf]
      | succ n =>
        have hlt : (n + 1) / W64 < n + 1 := Nat.div_lt_self (by omega) (by rw [W64_eq]; omega)
        simp only [toWf]
        rw [if_neg (by omega), if_neg (by omega)]
        congr 1
        rw [ih f (by omega) _ (by omega)]
        by_cases hn : n < f + 1
        · by_cases hn' : n = f
          · subst hn'; exact (ih n (by omega) _ (by omega)).symm
          · exact (ih n (by omega) _ (by omega)).symm
        · omega
theorem toW_zero : toW 0 = [] := rfl
theorem toW_step (x n : Nat) (hx : x < W64) (h : x + W64 * n ≠ 0) : toW (x + W64 * n) = x :: toW n := by
  have hp := W64_pos
  obtain ⟨m, hm⟩ : ∃ m, x + W64 * n = m + 1 := ⟨x + W64 * n - 1, by omega⟩
  have e1 : (x + W64 * n) % W64 = x := by rw [Nat.add_mul_mod_self_left, Nat.mod_eq_of_lt hx]
  have e2 : (x + W64 * n) / W64 = n := by rw [Nat.add_mul_div_left _ _ hp, Nat.div_eq_of_lt hx]; omega
  have hle : n ≤ m := by
    rcases Nat.eq_zero_or_pos n with h0 | h0
    · omega
    · have : W64 * n ≥ 2 * n := Nat.mul_le_mul_right n (by rw [W64_eq]; omega)
      omega
  unfold toW
  rw [hm, toWf, if_neg (by omega), ← hm, e1, e2, toWf_fuel m n hle]
  rfl
theorem toW_val {xs : List Nat} (h : Wf xs) : toW (val xs) = norm xs := by
  induction xs with
  | nil => rfl
  | cons x xs ih =>
    have ih := ih h.tail
    unfold norm
    rw [val_cons]
    by_cases h0 : x + W64 * val xs = 0
    · have hv : val (x :: xs) = 0 := h0
      have h1 : norm (x :: xs) = [] := norm_eq_nil.2 hv
      unfold norm at h1
      rw [h0, h1]; rfl
    · rw [toW_step x _ h.head h0, ih, if_neg]
      intro ⟨h1, h2⟩
      rw [norm_eq_nil] at h1
      rw [h1, h2] at h0
      simp at h0
theorem toWf_wf (f n : Nat) : Wf (toWf f n) := by
  induction f generalizing n with
  | zero => exact Wf.nil
  | succ f ih =>
    unfold toWf
    split
    · exact Wf.nil
    · exact Wf.cons (Nat.mod_lt _ W64_pos) (ih _)
theorem toW_wf (n : Nat) : Wf (toW n) := toWf_wf n n
theorem toWf_val (f n : Nat) (h : n ≤ f) : val (toWf f n) = n := by
  induction f generalizing n with
  | zero => obtain rfl : n = 0 := by omega
            rfl
  | succ f ih =>
    unfold toWf
    split
    · rename_i h0; rw [h0]; rfl
    · have hlt : n / W64 < n := Nat.div_lt_self (by omega) (by rw [W64_eq]; omega)
      rw [val_cons, ih _ (by omega)]
      exact Nat.mod_add_div n W64
theorem val_toW (n : Nat) : val (toW n) = n := toWf_val n n (Nat.le_refl _)
theorem norm_toW (n : Nat) : norm (toW n) = toW n := by rw [← toW_val (toW_wf n), val_toW]
theorem toW_inj {m n : Nat} (h : toW m = toW n) : m = n := by rw [← val_toW m, h, val_toW]
theorem toW_length_le {n k : Nat} (h : n < W64 ^ k) : (toW n).length ≤ k := by
  induction k generalizing n with
  | zero => obtain rfl : n = 0 := by rw [Nat.pow_zero] at h; omega
            exact Nat.le_refl _
  | succ k ih =>
    by_cases h0 : n = 0
    · subst h0; simp [toW_zero]
    · have e := Nat.mod_add_div n W64
      have hm : n / W64 < W64 ^ k := by
        rw [Nat.div_lt_iff_lt_mul W64_pos, ← Nat.pow_succ]; exact h
      rw [← e, toW_step _ _ (Nat.mod_lt _ W64_pos) (by omega), List.length_cons]
      have := ih hm
      omega
theorem norm_idem (xs : List Nat) (h : Wf xs) : norm (norm xs) = norm xs := by rw [← toW_val h, norm_toW]
theorem norm_last {xs : List Nat} (h : norm xs ≠ []) : (norm xs).getD ((norm xs).length - 1) 0 ≠ 0 := by
  induction xs with
  | nil => exact absurd rfl h
  | cons x xs ih =>
    unfold norm at h ⊢
    split
    · rename_i h'; rw [if_pos h'] at h; exact absurd rfl h
    · rename_i h'
      by_cases hn : norm xs = []
      · rw [hn]
        simp only [List.length_cons, List.length_nil]
        intro h0
        exact h' ⟨hn, by simpa using h0⟩
      · have := ih hn
        have hl : 0 < (norm xs).length := List.length_pos_iff.2 hn
        rw [List.length_cons, Nat.add_sub_cancel]
        obtain ⟨m, hm⟩ : ∃ m, (norm xs).length = m + 1 := ⟨(norm xs).length - 1, by omega⟩
        rw [hm] at this ⊢
        simpa using this
/-- how a scan from the end finds the normal form: the words from k on are 0, the word ahead is not -/
theorem norm_of_scan (xs : List Nat) (k : Nat) (hk : k ≤ xs.length) (hz : ∀ j, k ≤ j → j < xs.length → xs.getD j 0 = 0) (hl : k = 0 ∨ xs.getD (k - 1) 0 ≠ 0) : norm xs = xs.take k := by
  induction xs generalizing k with
  | nil => simp [norm]
  | cons x xs ih =>
    cases k with
    | zero =>
      have h1 := ih 0 (by omega) (fun j _ hj => by simpa using hz (j + 1) (by omega) (by simpa using hj)) (.inl rfl)
      have h2 : x = 0 := by simpa using hz 0 (by omega) (by simp)
      simp only [List.take_zero] at h1
      unfold norm
      rw [if_pos ⟨h1, h2⟩]; rfl
    | succ k =>
      have h1 := ih k (by simpa using hk) (fun j h hj => by simpa using hz (j + 1) (by omega) (by simpa using hj))
        (by
          cases k with
          | zero => exact .inl rfl
          | succ k => rcases hl with hl | hl
                      · omega
                      · exact .inr (by simpa using hl))
      unfold norm
      rw [h1, if_neg]
      · rfl
      · intro ⟨h2, h3⟩
        rcases hl with hl | hl
        · omega
        · cases k with
          | zero => exact hl (by simpa using h3)
          | succ k =>
            have hlen : k + 1 ≤ xs.length := by simpa using hk
            have : (xs.take (k + 1)).length = 0 := by rw [h2]; rfl
            rw [List.length_take] at this
            omega

/-- one step of an addition with carry -/
theorem add_step (P s o y c : Nat) (W : Nat) (hW : W = W64) : (s + P * ((o + y + c) % W)) + P * W * ((o + y + c) / W) = s + P * c + P * o + P * y := by
  subst hW
  have h := Nat.mod_add_div (o + y + c) W64
  have h2 : P * ((o + y + c) % W64) + P * W64 * ((o + y + c) / W64) = P * (o + y + c) := by
    rw [Nat.mul_assoc, ← Nat.mul_add, h]
  rw [Nat.mul_add, Nat.mul_add] at h2
  omega
end Go.Proofs.Ytocmmabpebbdaaa
