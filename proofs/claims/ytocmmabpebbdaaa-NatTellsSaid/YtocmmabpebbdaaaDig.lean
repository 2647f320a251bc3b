/- Numbers as lists of digits of 16 bits: the same as of words (made by program out of the texts on words). -/
namespace Go.Proofs.Ytocmmabpebbdaaa.Dig


/-- 2^16 -/
def W16 : Nat := 65536
theorem W16_eq : W16 = 65536 := rfl
theorem W16_pos : 0 < W16 := by rw [W16_eq]; omega

def val : List Nat → Nat
  | [] => 0
  | x :: xs => x + W16 * val xs

/-- each word is below 2^16 -/
def Wf (xs : List Nat) : Prop := ∀ x, x ∈ xs → x < W16

/-- without the noughts at its end -/
def norm : List Nat → List Nat
  | [] => []
  | x :: xs => if norm xs = [] ∧ x = 0 then [] else x :: norm xs

def toWf : Nat → Nat → List Nat
  | 0, _ => []
  | f + 1, n => if n = 0 then [] else n % W16 :: toWf f (n / W16)
/-- the words of a number -/
def toW (n : Nat) : List Nat := toWf n n

theorem val_nil : val [] = 0 := rfl
theorem val_cons (x : Nat) (xs : List Nat) : val (x :: xs) = x + W16 * val xs := rfl
theorem Wf.nil : Wf [] := fun _ h => by cases h
theorem Wf.cons {x : Nat} {xs : List Nat} (hx : x < W16) (h : Wf xs) : Wf (x :: xs) := by
  intro y hy
  cases hy with
  | head => exact hx
  | tail _ hy => exact h y hy
theorem Wf.head {x : Nat} {xs : List Nat} (h : Wf (x :: xs)) : x < W16 := h x List.mem_cons_self
theorem Wf.tail {x : Nat} {xs : List Nat} (h : Wf (x :: xs)) : Wf xs := fun y hy => h y (List.mem_cons_of_mem _ hy)
theorem Wf.append {xs ys : List Nat} (h : Wf xs) (k : Wf ys) : Wf (xs ++ ys) := by
  intro y hy
  rcases List.mem_append.1 hy with hy | hy
  · exact h y hy
  · exact k y hy
theorem Wf.take {xs : List Nat} (h : Wf xs) (n : Nat) : Wf (xs.take n) := fun y hy => h y (List.mem_of_mem_take hy)
theorem Wf.drop {xs : List Nat} (h : Wf xs) (n : Nat) : Wf (xs.drop n) := fun y hy => h y (List.mem_of_mem_drop hy)
theorem Wf.getD {xs : List Nat} (h : Wf xs) (i : Nat) : xs.getD i 0 < W16 := by
  rw [List.getD_eq_getElem?_getD]
  by_cases hi : i < xs.length
  · rw [List.getElem?_eq_getElem hi]; exact h _ (List.getElem_mem hi)
  · rw [List.getElem?_eq_none (by omega)]; exact W16_pos
theorem Wf.set {xs : List Nat} (h : Wf xs) (i v : Nat) (hv : v < W16) : Wf (xs.set i v) := by
  intro y hy
  rcases List.mem_or_eq_of_mem_set hy with hy | hy
  · exact h y hy
  · rw [hy]; exact hv
theorem Wf.zeros (n : Nat) : Wf (List.replicate n 0) := fun y hy => by rw [(List.mem_replicate.1 hy).2]; exact W16_pos

theorem val_append (xs ys : List Nat) : val (xs ++ ys) = val xs + W16 ^ xs.length * val ys := by
  induction xs with
  | nil => simp [val]
  | cons x xs ih => rw [List.cons_append, val_cons, ih, val_cons, List.length_cons, Nat.pow_succ, Nat.mul_add, Nat.add_assoc, Nat.mul_comm (W16 ^ xs.length) W16, Nat.mul_assoc]
theorem val_zeros (n : Nat) : val (List.replicate n 0) = 0 := by
  induction n with
  | zero => rfl
  | succ n ih => rw [List.replicate_succ, val_cons, ih]; simp
theorem val_lt {xs : List Nat} (h : Wf xs) : val xs < W16 ^ xs.length := by
  induction xs with
  | nil => simp [val]
  | cons x xs ih =>
    have h1 := ih h.tail
    have h2 := h.head
    rw [val_cons, List.length_cons, Nat.pow_succ, Nat.mul_comm _ W16]
    have h3 : W16 * (val xs + 1) ≤ W16 * W16 ^ xs.length := Nat.mul_le_mul_left _ h1
    rw [Nat.mul_add] at h3
    omega
theorem val_take_drop (xs : List Nat) (k : Nat) (hk : k ≤ xs.length) : val xs = val (xs.take k) + W16 ^ k * val (xs.drop k) := by
  have h := val_append (xs.take k) (xs.drop k)
  rw [List.take_append_drop, List.length_take, Nat.min_eq_left hk] at h
  exact h
theorem val_take_succ (xs : List Nat) (k : Nat) (hk : k < xs.length) : val (xs.take (k + 1)) = val (xs.take k) + W16 ^ k * xs.getD k 0 := by
  rw [List.take_succ_eq_append_getElem hk, val_append, List.length_take, Nat.min_eq_left (by omega), List.getD_eq_getElem?_getD, List.getElem?_eq_getElem hk]
  simp [val]
/-- words beyond the list are 0 -/
theorem val_take_succ_any (xs : List Nat) (k : Nat) : val (xs.take (k + 1)) = val (xs.take k) + W16 ^ k * xs.getD k 0 := by
  by_cases hk : k < xs.length
  · exact val_take_succ xs k hk
  · rw [List.take_of_length_le (by omega), List.take_of_length_le (by omega), List.getD_eq_getElem?_getD, List.getElem?_eq_none (by omega)]
    simp

theorem norm_wf {xs : List Nat} (h : Wf xs) : Wf (norm xs) := by
  induction xs with
  | nil => exact Wf.nil
  | cons x xs ih =>
    unfold norm
    split
    · exact Wf.nil
    · exact Wf.cons h.head (ih h.tail)
theorem norm_val (xs : List Nat) : val (norm xs) = val xs := by
  induction xs with
  | nil => rfl
  | cons x xs ih =>
    unfold norm
    split
    · rename_i h
      rw [val_cons, ← ih, h.1, h.2]; simp [val]
    · rw [val_cons, val_cons, ih]
theorem norm_length_le (xs : List Nat) : (norm xs).length ≤ xs.length := by
  induction xs with
  | nil => exact Nat.le_refl _
  | cons x xs ih =>
    unfold norm
    split
    · simp
    · simp; exact ih
theorem norm_take (xs : List Nat) : norm xs = xs.take (norm xs).length := by
  induction xs with
  | nil => rfl
  | cons x xs ih =>
    unfold norm
    split
    · rfl
    · rw [List.length_cons, List.take_succ_cons, ← ih]
theorem norm_eq_nil {xs : List Nat} : norm xs = [] ↔ val xs = 0 := by
  induction xs with
  | nil => simp [norm, val]
  | cons x xs ih =>
    have hp := W16_pos
    unfold norm
    rw [val_cons]
    constructor
    · intro h
      split at h
      · rename_i h'; rw [ih] at h'; rw [h'.1, h'.2]; simp
      · cases h
    · intro h
      have h1 : x = 0 := by omega
      have h2 : W16 * val xs = 0 := by omega
      have h3 : val xs = 0 := by
        rcases Nat.mul_eq_zero.1 h2 with h | h
        · omega
        · exact h
      rw [if_pos ⟨ih.2 h3, h1⟩]
theorem toWf_fuel (f n : Nat) (h : n ≤ f) : toWf f n = toW n := by
  unfold toW
  induction f using Nat.strongRecOn generalizing n with
  | _ f ih =>
    cases f with
    | zero => obtain rfl : n = 0 := by omega
              rfl
    | succ f =>
      cases n with
      | zero => simp [toWf]
      | succ n =>
        have hlt : (n + 1) / W16 < n + 1 := Nat.div_lt_self (by omega) (by rw [W16_eq]; omega)
        simp only [toWf]
        rw [if_neg (by omega), if_neg (by omega)]
        congr 1
        rw [ih f (by omega) _ (by omega)]
        by_cases hn : n < f + 1
        · by_cases hn' : n = f
          · subst hn'; exact (ih n (by omega) _ (by omega)).symm
          · exact (ih n (by omega) _ (by omega)).symm
        · omega
theorem toW_zero : toW 0 = [] := rfl
theorem toW_step (x n : Nat) (hx : x < W16) (h : x + W16 * n ≠ 0) : toW (x + W16 * n) = x :: toW n := by
  have hp := W16_pos
  obtain ⟨m, hm⟩ : ∃ m, x + W16 * n = m + 1 := ⟨x + W16 * n - 1, by omega⟩
  have e1 : (x + W16 * n) % W16 = x := by rw [Nat.add_mul_mod_self_left, Nat.mod_eq_of_lt hx]
  have e2 : (x + W16 * n) / W16 = n := by rw [Nat.add_mul_div_left _ _ hp, Nat.div_eq_of_lt hx]; omega
  have hle : n ≤ m := by
    rcases Nat.eq_zero_or_pos n with h0 | h0
    · omega
    · have : W16 * n ≥ 2 * n := Nat.mul_le_mul_right n (by rw [W16_eq]; omega)
      omega
  unfold toW
  rw [hm, toWf, if_neg (by omega), ← hm, e1, e2, toWf_fuel m n hle]
  rfl
theorem toW_val {xs : List Nat} (h : Wf xs) : toW (val xs) = norm xs := by
  induction xs with
  | nil => rfl
  | cons x xs ih =>
    have ih := ih h.tail
    unfold norm
    rw [val_cons]
    by_cases h0 : x + W16 * val xs = 0
    · have hv : val (x :: xs) = 0 := h0
      have h1 : norm (x :: xs) = [] := norm_eq_nil.2 hv
      unfold norm at h1
      rw [h0, h1]; rfl
    · rw [toW_step x _ h.head h0, ih, if_neg]
      intro ⟨h1, h2⟩
      rw [norm_eq_nil] at h1
      rw [h1, h2] at h0
      simp at h0
theorem toWf_wf (f n : Nat) : Wf (toWf f n) := by
  induction f generalizing n with
  | zero => exact Wf.nil
  | succ f ih =>
    unfold toWf
    split
    · exact Wf.nil
    · exact Wf.cons (Nat.mod_lt _ W16_pos) (ih _)
theorem toW_wf (n : Nat) : Wf (toW n) := toWf_wf n n
theorem toWf_val (f n : Nat) (h : n ≤ f) : val (toWf f n) = n := by
  induction f generalizing n with
  | zero => obtain rfl : n = 0 := by omega
            rfl
  | succ f ih =>
    unfold toWf
    split
    · rename_i h0; rw [h0]; rfl
    · have hlt : n / W16 < n := Nat.div_lt_self (by omega) (by rw [W16_eq]; omega)
      rw [val_cons, ih _ (by omega)]
      exact Nat.mod_add_div n W16
theorem val_toW (n : Nat) : val (toW n) = n := toWf_val n n (Nat.le_refl _)
theorem norm_toW (n : Nat) : norm (toW n) = toW n := by rw [← toW_val (toW_wf n), val_toW]
theorem toW_inj {m n : Nat} (h : toW m = toW n) : m = n := by rw [← val_toW m, h, val_toW]
theorem toW_length_le {n k : Nat} (h : n < W16 ^ k) : (toW n).length ≤ k := by
  induction k generalizing n with
  | zero => obtain rfl : n = 0 := by rw [Nat.pow_zero] at h; omega
            exact Nat.le_refl _
  | succ k ih =>
    by_cases h0 : n = 0
    · subst h0; simp [toW_zero]
    · have e := Nat.mod_add_div n W16
      have hm : n / W16 < W16 ^ k := by
        rw [Nat.div_lt_iff_lt_mul W16_pos, ← Nat.pow_succ]; exact h
      rw [← e, toW_step _ _ (Nat.mod_lt _ W16_pos) (by omega), List.length_cons]
      have := ih hm
      omega
theorem norm_idem (xs : List Nat) (h : Wf xs) : norm (norm xs) = norm xs := by rw [← toW_val h, norm_toW]
theorem norm_last {xs : List Nat} (h : norm xs ≠ []) : (norm xs).getD ((norm xs).length - 1) 0 ≠ 0 := by
  induction xs with
  | nil => exact absurd rfl h
  | cons x xs ih =>
    unfold norm at h ⊢
    split
    · rename_i h'; rw [if_pos h'] at h; exact absurd rfl h
    · rename_i h'
      by_cases hn : norm xs = []
      · rw [hn]
        simp only [List.length_cons, List.length_nil]
        intro h0
        exact h' ⟨hn, by simpa using h0⟩
      · have := ih hn
        have hl : 0 < (norm xs).length := List.length_pos_iff.2 hn
        rw [List.length_cons, Nat.add_sub_cancel]
        obtain ⟨m, hm⟩ : ∃ m, (norm xs).length = m + 1 := ⟨(norm xs).length - 1, by omega⟩
        rw [hm] at this ⊢
        simpa using this
/-- how a scan from the end finds the normal form: the words from k on are 0, the word ahead is not -/
theorem norm_of_scan (xs : List Nat) (k : Nat) (hk : k ≤ xs.length) (hz : ∀ j, k ≤ j → j < xs.length → xs.getD j 0 = 0) (hl : k = 0 ∨ xs.getD (k - 1) 0 ≠ 0) : norm xs = xs.take k := by
  induction xs generalizing k with
  | nil => simp [norm]
  | cons x xs ih =>
    cases k with
    | zero =>
      have h1 := ih 0 (by omega) (fun j _ hj => by simpa using hz (j + 1) (by omega) (by simpa using hj)) (.inl rfl)
      have h2 : x = 0 := by simpa using hz 0 (by omega) (by simp)
      simp only [List.take_zero] at h1
      unfold norm
      rw [if_pos ⟨h1, h2⟩]; rfl
    | succ k =>
      have h1 := ih k (by simpa using hk) (fun j h hj => by simpa using hz (j + 1) (by omega) (by simpa using hj))
        (by
          cases k with
          | zero => exact .inl rfl
          | succ k => rcases hl with hl | hl
                      · omega
                      · exact .inr (by simpa using hl))
      unfold norm
      rw [h1, if_neg]
      · rfl
      · intro ⟨h2, h3⟩
        rcases hl with hl | hl
        · omega
        · cases k with
          | zero => exact hl (by simpa using h3)
          | succ k =>
            have hlen : k + 1 ≤ xs.length := by simpa using hk
            have : (xs.take (k + 1)).length = 0 := by rw [h2]; rfl
            rw [List.length_take] at this
            omega

/-- one step of an addition with carry -/
theorem add_step (P s o y c : Nat) (W : Nat) (hW : W = W16) : (s + P * ((o + y + c) % W)) + P * W * ((o + y + c) / W) = s + P * c + P * o + P * y := by
  subst hW
  have h := Nat.mod_add_div (o + y + c) W16
  have h2 : P * ((o + y + c) % W16) + P * W16 * ((o + y + c) / W16) = P * (o + y + c) := by
    rw [Nat.mul_assoc, ← Nat.mul_add, h]
  rw [Nat.mul_add, Nat.mul_add] at h2
  omega



/-- the first words from off on written anew, k of them -/
def upd (ws : List Nat) (off k : Nat) (nw : Nat → Nat) : List Nat := ws.take off ++ ((List.range k).map nw ++ ws.drop (off + k))
theorem upd_zero (ws : List Nat) (off : Nat) (nw : Nat → Nat) : upd ws off 0 nw = ws := by simp [upd]
theorem upd_length (ws : List Nat) (off k : Nat) (nw : Nat → Nat) (h : off + k ≤ ws.length) : (upd ws off k nw).length = ws.length := by simp [upd]; omega
theorem upd_getD (ws : List Nat) (off k : Nat) (nw : Nat → Nat) (h : off + k < ws.length) : (upd ws off k nw).getD (off + k) 0 = ws.getD (off + k) 0 := by
  simp only [upd, List.getD_eq_getElem?_getD]
  rw [List.getElem?_append_right (by rw [List.length_take]; omega), List.length_take, Nat.min_eq_left (by omega), List.getElem?_append_right (by simp)]
  simp
theorem upd_set (ws : List Nat) (off k : Nat) (nw : Nat → Nat) (h : off + k < ws.length) : (upd ws off k nw).set (off + k) (nw k) = upd ws off (k + 1) nw := by
  unfold upd
  rw [List.set_append_right _ _ (by rw [List.length_take]; omega), List.length_take, Nat.min_eq_left (by omega), List.set_append_right _ _ (by simp)]
  simp only [List.length_map, List.length_range, Nat.add_sub_cancel_left, Nat.sub_self]
  rw [List.drop_eq_getElem_cons h, List.set_cons_zero, List.range_succ, List.map_append]
  simp [Nat.add_assoc]

/-- the number of the first k words of a sequence -/
def sval (f : Nat → Nat) : Nat → Nat
  | 0 => 0
  | k + 1 => sval f k + W16 ^ k * f k
theorem val_range_map (f : Nat → Nat) (k : Nat) : val ((List.range k).map f) = sval f k := by
  induction k with
  | zero => rfl
  | succ k ih => rw [List.range_succ, List.map_append, val_append, ih, List.length_map, List.length_range]; simp [sval, val]
theorem sval_getD (xs : List Nat) (k : Nat) : sval (fun i => xs.getD i 0) k = val (xs.take k) := by
  induction k with
  | zero => simp [sval, val]
  | succ k ih => rw [sval, ih, val_take_succ_any]
theorem sval_getD_off (xs : List Nat) (off k : Nat) : sval (fun i => xs.getD (off + i) 0) k = val ((xs.drop off).take k) := by
  rw [← sval_getD]
  congr 1
  funext i
  simp [List.getD]
theorem sval_lt {f : Nat → Nat} (k : Nat) (h : ∀ i, i < k → f i < W16) : sval f k < W16 ^ k := by
  induction k with
  | zero => simp [sval]
  | succ k ih =>
    have h1 := ih (fun i hi => h i (by omega))
    have h2 : W16 ^ k * (f k + 1) ≤ W16 ^ k * W16 := Nat.mul_le_mul_left _ (h k (by omega))
    rw [Nat.mul_add, Nat.mul_one] at h2
    rw [sval, Nat.pow_succ]
    omega

/-- the carries of o + m y, beginning with c -/
def mc (m c : Nat) (o y : Nat → Nat) : Nat → Nat
  | 0 => c
  | i + 1 => (o i + m * y i + mc m c o y i) / 65536
def mn (m c : Nat) (o y : Nat → Nat) (i : Nat) : Nat := (o i + m * y i + mc m c o y i) % 65536
theorem mn_lt (m c : Nat) (o y : Nat → Nat) (i : Nat) : mn m c o y i < W16 := Nat.mod_lt _ (by omega)
theorem mn_val (m c : Nat) (o y : Nat → Nat) (k : Nat) : sval (mn m c o y) k + W16 ^ k * mc m c o y k = c + sval o k + m * sval y k := by
  induction k with
  | zero => simp [sval, mc]
  | succ k ih =>
    have e : mn m c o y k + W16 * mc m c o y (k + 1) = o k + m * y k + mc m c o y k := Nat.mod_add_div _ _
    have e2 : W16 ^ k * (mn m c o y k + W16 * mc m c o y (k + 1)) = W16 ^ k * (o k + m * y k + mc m c o y k) := by rw [e]
    simp only [Nat.mul_add] at e2
    have e3 : W16 ^ k * (W16 * mc m c o y (k + 1)) = W16 ^ (k + 1) * mc m c o y (k + 1) := by rw [Nat.pow_succ, Nat.mul_assoc]
    have e4 : W16 ^ k * (m * y k) = m * (W16 ^ k * y k) := by rw [Nat.mul_left_comm]
    simp only [sval, Nat.mul_add]
    omega
theorem mc_le_one {c : Nat} {o y : Nat → Nat} (hc : c ≤ 1) (ho : ∀ i, o i < W16) (hy : ∀ i, y i < W16) (i : Nat) : mc 1 c o y i ≤ 1 := by
  induction i with
  | zero => exact hc
  | succ i ih =>
    have h1 := ho i
    have h2 := hy i
    rw [W16_eq] at h1 h2
    simp only [mc]
    omega
theorem mc_lt {m c : Nat} {o y : Nat → Nat} (hm : m < W16) (hc : c < W16) (ho : ∀ i, o i < W16) (hy : ∀ i, y i < W16) (i : Nat) : mc m c o y i < W16 := by
  induction i with
  | zero => exact hc
  | succ i ih =>
    have h1 := ho i
    have h2 := hy i
    have hp : m * y i ≤ 65535 * 65535 := Nat.mul_le_mul (by rw [W16_eq] at hm; omega) (by rw [W16_eq] at h2; omega)
    rw [W16_eq] at h1 ih ⊢
    simp only [mc]
    generalize m * y i = p at *
    omega
/-- where the whole has room the last carry is 0 -/
theorem mc_zero {m c : Nat} {o y : Nat → Nat} {k : Nat} (h : c + sval o k + m * sval y k < W16 ^ k) : mc m c o y k = 0 := by
  have e := mn_val m c o y k
  rcases Nat.eq_zero_or_pos (mc m c o y k) with h0 | h0
  · exact h0
  · have : W16 ^ k * 1 ≤ W16 ^ k * mc m c o y k := Nat.mul_le_mul_left _ h0
    omega
theorem mn_val_room {m c : Nat} {o y : Nat → Nat} {k : Nat} (h : c + sval o k + m * sval y k < W16 ^ k) : sval (mn m c o y) k = c + sval o k + m * sval y k := by
  have e := mn_val m c o y k
  rw [mc_zero h] at e
  omega

/-- 1 where one word, less another one and what was borrowed, is none -/
def borrow (o y c : Nat) : Nat := if o < y + c then 1 else 0
/-- what o - y borrows -/
def bc (o y : Nat → Nat) : Nat → Nat
  | 0 => 0
  | i + 1 => borrow (o i) (y i) (bc o y i)
def bn (o y : Nat → Nat) (i : Nat) : Nat := (o i + 65536 - y i - bc o y i) % 65536
theorem bn_lt (o y : Nat → Nat) (i : Nat) : bn o y i < W16 := Nat.mod_lt _ (by omega)
theorem bc_le_one (o y : Nat → Nat) (i : Nat) : bc o y i ≤ 1 := by
  cases i with
  | zero => exact Nat.zero_le _
  | succ i => simp only [bc, borrow]; split <;> omega
theorem bn_val {o y : Nat → Nat} (ho : ∀ i, o i < W16) (hy : ∀ i, y i < W16) (k : Nat) : sval o k + W16 ^ k * bc o y k = sval (bn o y) k + sval y k := by
  induction k with
  | zero => simp [sval, bc]
  | succ k ih =>
    have h1 := ho k
    have h2 := hy k
    have h3 := bc_le_one o y k
    have e : o k + W16 * bc o y (k + 1) = bn o y k + y k + bc o y k := by
      rw [W16_eq] at h1 h2 ⊢
      simp only [bc, bn, borrow]
      split <;> omega
    have e2 : W16 ^ k * (o k + W16 * bc o y (k + 1)) = W16 ^ k * (bn o y k + y k + bc o y k) := by rw [e]
    simp only [Nat.mul_add] at e2
    have e3 : W16 ^ k * (W16 * bc o y (k + 1)) = W16 ^ (k + 1) * bc o y (k + 1) := by rw [Nat.pow_succ, Nat.mul_assoc]
    simp only [sval]
    omega
theorem bn_val_room {o y : Nat → Nat} (ho : ∀ i, o i < W16) (hy : ∀ i, y i < W16) {k : Nat} (h : sval y k ≤ sval o k) : sval (bn o y) k = sval o k - sval y k := by
  have e := bn_val ho hy k
  have h1 := sval_lt (f := bn o y) k (fun i _ => bn_lt o y i)
  have h2 := bc_le_one o y k
  have : bc o y k = 0 := by
    rcases Nat.eq_zero_or_pos (bc o y k) with h0 | h0
    · exact h0
    · have e1 : bc o y k = 1 := by omega
      rw [e1] at e
      omega
  rw [this] at e
  omega

theorem upd_wf {ws : List Nat} (h : Wf ws) (off k : Nat) {nw : Nat → Nat} (hn : ∀ i, nw i < W16) : Wf (upd ws off k nw) := by
  unfold upd
  refine (h.take _).append (Wf.append ?_ (h.drop _))
  intro x hx
  obtain ⟨i, _, rfl⟩ := List.mem_map.1 hx
  exact hn i
theorem upd_whole (ws : List Nat) (nw : Nat → Nat) : upd ws 0 ws.length nw = (List.range ws.length).map nw := by simp [upd]
theorem val_upd (ws : List Nat) (off k : Nat) (nw : Nat → Nat) (h : off + k ≤ ws.length) : val (upd ws off k nw) = val (ws.take off) + W16 ^ off * (sval nw k + W16 ^ k * val (ws.drop (off + k))) := by
  unfold upd
  rw [val_append, val_append, val_range_map, List.length_take, List.length_map, List.length_range, Nat.min_eq_left (by omega)]
theorem val_window (ws : List Nat) (off k : Nat) (h : off + k ≤ ws.length) : val ws = val (ws.take off) + W16 ^ off * (sval (fun i => ws.getD (off + i) 0) k + W16 ^ k * val (ws.drop (off + k))) := by
  rw [sval_getD_off, val_take_drop ws off (by omega), val_take_drop (ws.drop off) k (by rw [List.length_drop]; omega), List.drop_drop]
theorem val_high {ws : List Nat} {k : Nat} (hk : k ≤ ws.length) (h : val ws < W16 ^ k) : val (ws.drop k) = 0 := by
  have e := val_take_drop ws k hk
  rcases Nat.eq_zero_or_pos (val (ws.drop k)) with h0 | h0
  · exact h0
  · have : W16 ^ k * 1 ≤ W16 ^ k * val (ws.drop k) := Nat.mul_le_mul_left _ h0
    omega

theorem val_take_of_lt {xs : List Nat} {n : Nat} (h : val xs < W16 ^ n) : val (xs.take n) = val xs := by
  by_cases hn : n ≤ xs.length
  · have e := val_take_drop xs n hn
    rw [val_high hn h] at e
    simpa using e.symm
  · rw [List.take_of_length_le (by omega)]
/-- a + b, over all words of a -/
theorem add_whole {ws ys : List Nat} (h : Wf ws) (_hy : Wf ys) (hl : ys.length ≤ ws.length) (hr : val ws + val ys < W16 ^ ws.length) :
    Wf (upd ws 0 ws.length (mn 1 0 (fun i => ws.getD (0 + i) 0) (fun i => ys.getD i 0))) ∧ val (upd ws 0 ws.length (mn 1 0 (fun i => ws.getD (0 + i) 0) (fun i => ys.getD i 0))) = val ws + val ys := by
  refine ⟨upd_wf h _ _ (mn_lt _ _ _ _), ?_⟩
  have e1 : sval (fun i => ws.getD (0 + i) 0) ws.length = val ws := by rw [sval_getD_off]; simp
  have e2 : sval (fun i => ys.getD i 0) ws.length = val ys := by rw [sval_getD, List.take_of_length_le hl]
  rw [upd_whole, val_range_map, mn_val_room (by rw [e1, e2]; omega), e1, e2]
  omega
/-- a - b, over all words of a -/
theorem sub_whole {ws ys : List Nat} (h : Wf ws) (hy : Wf ys) (hr : val ys ≤ val ws) :
    Wf (upd ws 0 ws.length (bn (fun i => ws.getD (0 + i) 0) (fun i => ys.getD i 0))) ∧ val (upd ws 0 ws.length (bn (fun i => ws.getD (0 + i) 0) (fun i => ys.getD i 0))) = val ws - val ys := by
  refine ⟨upd_wf h _ _ (bn_lt _ _), ?_⟩
  have e1 : sval (fun i => ws.getD (0 + i) 0) ws.length = val ws := by rw [sval_getD_off]; simp
  have e2 : sval (fun i => ys.getD i 0) ws.length = val ys := by rw [sval_getD, val_take_of_lt (Nat.lt_of_le_of_lt hr (val_lt h))]
  rw [upd_whole, val_range_map, bn_val_room (fun i => h.getD _) (fun i => hy.getD i) (by rw [e1, e2]; exact hr), e1, e2]
/-- twice a, and a bit more -/
theorem double_whole {ws : List Nat} (h : Wf ws) (c : Nat) (hr : 2 * val ws + c < W16 ^ ws.length) :
    Wf (upd ws 0 ws.length (mn 1 c (fun i => ws.getD (0 + i) 0) (fun i => ws.getD (0 + i) 0))) ∧ val (upd ws 0 ws.length (mn 1 c (fun i => ws.getD (0 + i) 0) (fun i => ws.getD (0 + i) 0))) = 2 * val ws + c := by
  refine ⟨upd_wf h _ _ (mn_lt _ _ _ _), ?_⟩
  have e1 : sval (fun i => ws.getD (0 + i) 0) ws.length = val ws := by rw [sval_getD_off]; simp
  rw [upd_whole, val_range_map, mn_val_room (by rw [e1]; omega), e1]
  omega
/-- one row of a product: what is behind it is 0 -/
theorem mul_row {ws ys : List Nat} {x k n : Nat} (h : Wf ws) (hy : Wf ys) (hx : x < W16) (hn : ys.length + 1 = n) (hk : k + n ≤ ws.length) (hz : val ws < W16 ^ (k + ys.length)) :
    Wf (upd ws k n (mn x 0 (fun i => ws.getD (k + i) 0) (fun i => ys.getD i 0))) ∧ val (upd ws k n (mn x 0 (fun i => ws.getD (k + i) 0) (fun i => ys.getD i 0))) = val ws + W16 ^ k * (x * val ys) := by
  refine ⟨upd_wf h _ _ (mn_lt _ _ _ _), ?_⟩
  have e2 : sval (fun i => ys.getD i 0) n = val ys := by rw [sval_getD, List.take_of_length_le (by omega)]
  have e3 : val (ws.drop (k + ys.length)) = 0 := val_high (by omega) hz
  have e5 : sval (fun i => ws.getD (k + i) 0) n < W16 ^ ys.length := by
    have hw := val_window ws k n hk
    rcases Nat.lt_or_ge (sval (fun i => ws.getD (k + i) 0) n) (W16 ^ ys.length) with hlt | hge
    · exact hlt
    · have h1 : W16 ^ k * W16 ^ ys.length ≤ W16 ^ k * (sval (fun i => ws.getD (k + i) 0) n + W16 ^ n * val (ws.drop (k + n))) := Nat.mul_le_mul_left _ (by omega)
      rw [← Nat.pow_add] at h1
      omega
  have e6 : x * val ys ≤ (W16 - 1) * W16 ^ ys.length := Nat.mul_le_mul (by omega) (Nat.le_of_lt (val_lt hy))
  have e7 : (W16 - 1) * W16 ^ ys.length + W16 ^ ys.length = W16 ^ n := by
    rw [← hn, Nat.pow_succ, Nat.sub_mul, Nat.one_mul, Nat.mul_comm (W16 ^ ys.length) W16]
    have : W16 ^ ys.length ≤ W16 * W16 ^ ys.length := Nat.le_mul_of_pos_left _ W16_pos
    omega
  rw [val_upd _ _ _ _ hk, mn_val_room (by rw [e2]; omega), e2, val_window ws k n hk]
  simp only [Nat.mul_add]
  omega



/-- -1, 0 or 1 -/
def cmp3 (m n : Nat) : Int := if m < n then -1 else if n < m then 1 else 0
theorem cmp3_lt {m n : Nat} (h : m < n) : cmp3 m n = -1 := by simp [cmp3, h]
theorem cmp3_gt {m n : Nat} (h : n < m) : cmp3 m n = 1 := by simp [cmp3, h]; omega
theorem cmp3_eq {m n : Nat} (h : m = n) : cmp3 m n = 0 := by simp [cmp3, h]

theorem val_ge_of_last {xs : List Nat} (h : xs ≠ []) (hl : xs.getD (xs.length - 1) 0 ≠ 0) : W16 ^ (xs.length - 1) ≤ val xs := by
  have hp : 0 < xs.length := List.length_pos_iff.2 h
  have e := val_take_succ xs (xs.length - 1) (by omega)
  rw [show xs.length - 1 + 1 = xs.length by omega, List.take_length] at e
  have : W16 ^ (xs.length - 1) * 1 ≤ W16 ^ (xs.length - 1) * xs.getD (xs.length - 1) 0 := Nat.mul_le_mul_left _ (by omega)
  omega
/-- the longer one of two in form is the greater -/
theorem val_lt_of_length {xs ys : List Nat} (hx : Wf xs) (h : (norm xs).length < (norm ys).length) : val xs < val ys := by
  rw [← norm_val xs, ← norm_val ys]
  have h1 := val_lt (norm_wf hx)
  have hne : norm ys ≠ [] := by intro e; rw [e] at h; simp at h
  have h2 := val_ge_of_last hne (norm_last hne)
  have h3 : W16 ^ (norm xs).length ≤ W16 ^ ((norm ys).length - 1) := Nat.pow_le_pow_right W16_pos (by omega)
  omega
theorem drop_eq_of_getD {xs ys : List Nat} (k : Nat) (hl : xs.length = ys.length) (h : ∀ j, k ≤ j → j < xs.length → xs.getD j 0 = ys.getD j 0) : xs.drop k = ys.drop k := by
  apply List.ext_getElem (by rw [List.length_drop, List.length_drop, hl])
  intro j h1 h2
  rw [List.length_drop] at h1 h2
  have := h (k + j) (by omega) (by omega)
  rw [List.getElem_drop, List.getElem_drop]
  simpa [List.getD, show k + j < xs.length by omega, show k + j < ys.length by omega] using this
/-- where the words above are the same, the first one that is not tells -/
theorem val_lt_of_word {xs ys : List Nat} (hx : Wf xs) (k : Nat) (hl : xs.length = ys.length) (hk : k < xs.length) (h : ∀ j, k + 1 ≤ j → j < xs.length → xs.getD j 0 = ys.getD j 0)
    (hlt : xs.getD k 0 < ys.getD k 0) : val xs < val ys := by
  have e := drop_eq_of_getD (k + 1) hl h
  rw [val_take_drop xs (k + 1) (by omega), val_take_drop ys (k + 1) (by omega), e, val_take_succ xs k hk, val_take_succ ys k (by omega)]
  have h1 := val_lt (hx.take k)
  rw [List.length_take, Nat.min_eq_left (by omega)] at h1
  have h2 : W16 ^ k * (xs.getD k 0 + 1) ≤ W16 ^ k * ys.getD k 0 := Nat.mul_le_mul_left _ hlt
  rw [Nat.mul_add, Nat.mul_one] at h2
  omega
theorem val_eq_of_words {xs ys : List Nat} (hl : xs.length = ys.length) (h : ∀ j, j < xs.length → xs.getD j 0 = ys.getD j 0) : val xs = val ys := by
  have e := drop_eq_of_getD 0 hl (fun j _ hj => h j hj)
  simp only [List.drop_zero] at e
  rw [e]



def setBit (q : List Nat) (p : Nat) : List Nat := q.set (p / 16) (q.getD (p / 16) 0 ||| 2 ^ (p % 16))
theorem setBit_length (q : List Nat) (p : Nat) : (setBit q p).length = q.length := by simp [setBit]
theorem W16_two : W16 = 2 ^ 16 := by rw [W16_eq]
theorem setBit_wf {q : List Nat} (h : Wf q) (p : Nat) : Wf (setBit q p) := by
  refine h.set _ _ ?_
  rw [W16_two]
  exact Nat.or_lt_two_pow (by have := h.getD (p / 16); rw [W16_two] at this; exact this) (Nat.pow_lt_pow_right (by omega) (by omega))
/-- where nothing stands below 2^(p+1), the bit p is added -/
theorem setBit_val {q : List Nat} (h : Wf q) (p : Nat) (hp : p < 16 * q.length) (hd : ∃ m, val q = 2 ^ (p + 1) * m) : val (setBit q p) = val q + 2 ^ p := by
  obtain ⟨m, hm⟩ := hd
  have hi : p / 16 < q.length := by omega
  have hs : p % 16 < 16 := Nat.mod_lt _ (by omega)
  have hpp : 16 * (p / 16) + p % 16 = p := by omega
  generalize p / 16 = i at *
  generalize p % 16 = s at *
  have hWi : W16 ^ i = 2 ^ (16 * i) := by rw [W16_two, ← Nat.pow_mul]
  have e0 := val_take_drop q (i + 1) (by omega)
  rw [val_take_succ q i hi] at e0
  have hlow := val_lt (h.take i)
  rw [List.length_take, Nat.min_eq_left (by omega)] at hlow
  -- the words below i are 0
  have e1 : 2 ^ (p + 1) * m = W16 ^ i * (2 ^ (s + 1) * m) := by
    rw [hWi, ← Nat.mul_assoc, ← Nat.pow_add]; congr 2; omega
  have e2 : W16 ^ (i + 1) * val (q.drop (i + 1)) = W16 ^ i * (2 ^ (s + 1) * (2 ^ (15 - s) * val (q.drop (i + 1)))) := by
    rw [← Nat.mul_assoc (2 ^ (s + 1)), ← Nat.pow_add, show s + 1 + (15 - s) = 16 by omega, ← W16_two, Nat.pow_succ, Nat.mul_assoc]
  have hz : val (q.take i) = 0 := by
    have e3 : val (q.take i) + W16 ^ i * (q.getD i 0 + 2 ^ (s + 1) * (2 ^ (15 - s) * val (q.drop (i + 1)))) = W16 ^ i * (2 ^ (s + 1) * m) := by
      rw [Nat.mul_add, ← e2, ← e1, ← hm, e0]; omega
    have e4 : (val (q.take i) + W16 ^ i * (q.getD i 0 + 2 ^ (s + 1) * (2 ^ (15 - s) * val (q.drop (i + 1))))) % W16 ^ i = 0 := by rw [e3]; exact Nat.mul_mod_right _ _
    rw [Nat.add_mul_mod_self_left, Nat.mod_eq_of_lt hlow] at e4
    exact e4
  have hw : ∃ c, q.getD i 0 = 2 ^ (s + 1) * c := by
    have e3 : W16 ^ i * (q.getD i 0 + 2 ^ (s + 1) * (2 ^ (15 - s) * val (q.drop (i + 1)))) = W16 ^ i * (2 ^ (s + 1) * m) := by
      rw [Nat.mul_add, ← e2, ← e1, ← hm, e0, hz]; omega
    have e4 := Nat.eq_of_mul_eq_mul_left (Nat.pow_pos W16_pos) e3
    refine ⟨m - 2 ^ (15 - s) * val (q.drop (i + 1)), ?_⟩
    rw [Nat.mul_sub]
    omega
  obtain ⟨c, hc⟩ := hw
  have hlen : i < (q.set i (q.getD i 0 ||| 2 ^ s)).length := by simpa using hi
  have hor : q.getD i 0 ||| 2 ^ s = q.getD i 0 + 2 ^ s := by
    rw [hc]; exact (Nat.two_pow_add_eq_or_of_lt (Nat.pow_lt_pow_right (by omega) (by omega)) c).symm
  have e5 := val_take_drop (q.set i (q.getD i 0 ||| 2 ^ s)) (i + 1) (by omega)
  rw [val_take_succ _ i hlen] at e5
  have e6 : (q.set i (q.getD i 0 ||| 2 ^ s)).take i = q.take i := by rw [List.take_set_of_le (Nat.le_refl _)]
  have e7 : (q.set i (q.getD i 0 ||| 2 ^ s)).drop (i + 1) = q.drop (i + 1) := by rw [List.drop_set_of_lt (by omega)]
  have e8 : (q.set i (q.getD i 0 ||| 2 ^ s)).getD i 0 = q.getD i 0 ||| 2 ^ s := by simp [List.getD, hi]
  rw [e6, e7, e8, hor, Nat.mul_add] at e5
  have e9 : W16 ^ i * 2 ^ s = 2 ^ p := by rw [hWi, ← Nat.pow_add]; congr 1
  unfold setBit
  rw [show p / 16 = i by omega, show p % 16 = s by omega, hor, e5, e9]
  omega

/-- one round of the division of lo by b, n bits in all: the k-th bit from above -/
def dstep (b n lo : Nat) (st : Nat × List Nat) (k : Nat) : Nat × List Nat :=
  if b ≤ 2 * st.1 + lo / 2 ^ (n - 1 - k) % 2 then (2 * st.1 + lo / 2 ^ (n - 1 - k) % 2 - b, setBit st.2 (n - 1 - k)) else (2 * st.1 + lo / 2 ^ (n - 1 - k) % 2, st.2)
def dsteps (b n lo : Nat) (st : Nat × List Nat) (ks : List Nat) : Nat × List Nat := ks.foldl (dstep b n lo) st
theorem dsteps_snoc (b n lo : Nat) (st : Nat × List Nat) (ks : List Nat) (k : Nat) : dsteps b n lo st (ks ++ [k]) = dstep b n lo (dsteps b n lo st ks) k := by simp [dsteps]
structure DInv (b l : Nat) (st : Nat × List Nat) : Prop where
  lt : st.1 < b
  wf : Wf st.2
  len : st.2.length = l
theorem dstep_inv {b n lo l k : Nat} {st : Nat × List Nat} (h : DInv b l st) : DInv b l (dstep b n lo st k) := by
  have h1 := h.lt
  have h2 : lo / 2 ^ (n - 1 - k) % 2 < 2 := Nat.mod_lt _ (by omega)
  unfold dstep
  split
  · exact ⟨by simp only; omega, setBit_wf h.wf _, by simp only [setBit_length]; exact h.len⟩
  · exact ⟨by simp only; omega, h.wf, h.len⟩
theorem dsteps_inv {b n lo l : Nat} {st : Nat × List Nat} (h : DInv b l st) (ks : List Nat) : DInv b l (dsteps b n lo st ks) := by
  unfold dsteps
  induction ks generalizing st with
  | nil => exact h
  | cons k ks ih => exact ih (dstep_inv h)
theorem bit_above (lo r0 n p : Nat) (hp : p < n) : (lo + 2 ^ n * r0) / 2 ^ p = lo / 2 ^ p + 2 * (2 ^ (n - 1 - p) * r0) := by
  have e : 2 ^ n * r0 = 2 ^ p * (2 * (2 ^ (n - 1 - p) * r0)) := by
    rw [← Nat.mul_assoc 2, ← Nat.pow_succ', ← Nat.mul_assoc, ← Nat.pow_add]; congr 2; omega
  rw [e, Nat.add_mul_div_left _ _ (Nat.pow_pos (by omega))]
/-- what k rounds have come to -/
theorem dsteps_val {b l r0 lo : Nat} (hr : r0 < b) (hlo : lo < 2 ^ (16 * l)) (k : Nat) (hk : k ≤ 16 * l) :
    ∃ Q, val (dsteps b (16 * l) lo (r0, List.replicate l 0) (List.range k)).2 = 2 ^ (16 * l - k) * Q ∧ Q * b + (dsteps b (16 * l) lo (r0, List.replicate l 0) (List.range k)).1 = (lo + 2 ^ (16 * l) * r0) / 2 ^ (16 * l - k) := by
  have hinv : ∀ k, DInv b l (dsteps b (16 * l) lo (r0, List.replicate l 0) (List.range k)) := fun k => dsteps_inv ⟨hr, Wf.zeros _, by simp⟩ _
  generalize hn : 16 * l = n at *
  induction k with
  | zero =>
    refine ⟨0, by simp [dsteps, val_zeros], ?_⟩
    simp only [dsteps, List.range_zero, List.foldl_nil, Nat.sub_zero, Nat.zero_mul, Nat.zero_add]
    rw [Nat.add_mul_div_left _ _ (Nat.pow_pos (by omega)), Nat.div_eq_of_lt hlo, Nat.zero_add]
  | succ k ih =>
    obtain ⟨Q, h1, h2⟩ := ih (by omega)
    have hI := hinv k
    rw [List.range_succ, dsteps_snoc]
    generalize dsteps b n lo (r0, List.replicate l 0) (List.range k) = st at *
    obtain ⟨r, q⟩ := st
    have hlen := hI.len
    have hwf := hI.wf
    simp only at h1 h2 hlen hwf
    obtain ⟨p, hp⟩ : ∃ p, p = n - 1 - k := ⟨_, rfl⟩
    have hp1 : n - k = p + 1 := by omega
    have hp2 : n - (k + 1) = p := by omega
    rw [hp1] at h1 h2
    rw [hp2]
    have hV : (lo + 2 ^ n * r0) / 2 ^ p = 2 * ((lo + 2 ^ n * r0) / 2 ^ (p + 1)) + lo / 2 ^ p % 2 := by
      have e1 := bit_above lo r0 n p (by omega)
      have e2 : (lo + 2 ^ n * r0) / 2 ^ (p + 1) = (lo + 2 ^ n * r0) / 2 ^ p / 2 := by rw [Nat.pow_succ, Nat.div_div_eq_div_mul]
      rw [e2]
      omega
    rw [hV, ← h2]
    unfold dstep
    simp only
    rw [← hp]
    have hpq : 2 ^ (p + 1) * Q = 2 ^ p * (2 * Q) := by rw [Nat.pow_succ, Nat.mul_assoc]
    split
    · rename_i hle
      refine ⟨2 * Q + 1, ?_, ?_⟩
      · simp only
        rw [setBit_val hwf p (by omega) ⟨Q, h1⟩, h1, hpq, Nat.mul_add, Nat.mul_one]
      · simp only
        rw [Nat.add_mul, Nat.mul_assoc, Nat.one_mul]
        omega
    · refine ⟨2 * Q, ?_, ?_⟩
      · simp only
        rw [h1, hpq]
      · simp only
        rw [Nat.mul_assoc]
        omega
/-- the whole division -/
theorem dsteps_all {b l r0 lo : Nat} (hr : r0 < b) (hlo : lo < 2 ^ (16 * l)) :
    val (dsteps b (16 * l) lo (r0, List.replicate l 0) (List.range (16 * l))).2 = (lo + 2 ^ (16 * l) * r0) / b ∧ (dsteps b (16 * l) lo (r0, List.replicate l 0) (List.range (16 * l))).1 = (lo + 2 ^ (16 * l) * r0) % b := by
  obtain ⟨Q, h1, h2⟩ := dsteps_val hr hlo (16 * l) (Nat.le_refl _)
  have h3 : (dsteps b (16 * l) lo (r0, List.replicate l 0) (List.range (16 * l))).1 < b := (dsteps_inv (l := l) ⟨hr, Wf.zeros _, by simp⟩ _).lt
  rw [Nat.sub_self, Nat.pow_zero, Nat.one_mul] at h1
  rw [Nat.sub_self, Nat.pow_zero, Nat.div_one] at h2
  rw [h1, ← h2]
  generalize (dsteps b (16 * l) lo (r0, List.replicate l 0) (List.range (16 * l))).1 = r at *
  constructor
  · rw [Nat.add_comm, Nat.add_mul_div_right _ _ (by omega), Nat.div_eq_of_lt h3, Nat.zero_add]
  · rw [Nat.add_comm, Nat.add_mul_mod_self_right, Nat.mod_eq_of_lt h3]

end Go.Proofs.Ytocmmabpebbdaaa.Dig
