/- Sums, multiples and differences word by word, with their carries. -/
import Derived.Test.YtocmmabpebbdaaaNatMath
namespace Go.Proofs.Ytocmmabpebbdaaa

/-- the first words from off on written anew, k of them -/
def upd (ws : List Nat) (off k : Nat) (nw : Nat → Nat) : List Nat := ws.take off ++ ((List.range k).map nw ++ ws.drop (off + k))
theorem upd_zero (ws : List Nat) (off : Nat) (nw : Nat → Nat) : upd ws off 0 nw = ws := by simp [upd]
theorem upd_length (ws : List Nat) (off k : Nat) (nw : Nat → Nat) (h : off + k ≤ ws.length) : (upd ws off k nw).length = ws.length := by simp [upd]; omega
theorem upd_getD (ws : List Nat) (off k : Nat) (nw : Nat → Nat) (h : off + k < ws.length) : (upd ws off k nw).getD (off + k) 0 = ws.getD (off + k) 0 := by
  simp only [upd, List.getD_eq_getElem?_getD]
  rw [List.getElem?_append_right (by rw [List.length_take]; omega), List.length_take, Nat.min_eq_left (by omega), List.getElem?_append_right (by simp)]
  simp
theorem upd_set (ws : List Nat) (off k : Nat) (nw : Nat → Nat) (h : off + k < ws.length) : (upd ws off k nw).set (off + k) (nw k) = upd ws off (k + 1) nw := by
  unfold upd
  rw [List.set_append_right _ _ (by rw [List.length_take]; omega), List.length_take, Nat.min_eq_left (by omega), List.set_append_right _ _ (by simp)]
  simp only [List.length_map, List.length_range, Nat.add_sub_cancel_left, Nat.sub_self]
  rw [List.drop_eq_getElem_cons h, List.set_cons_zero, List.range_succ, List.map_append]
  simp [Nat.add_assoc]

/-- the number of the first k words of a sequence -/
def sval (f : Nat → Nat) : Nat → Nat
  | 0 => 0
  | k + 1 => sval f k + W64 ^ k * f k
theorem val_range_map (f : Nat → Nat) (k : Nat) : val ((List.range k).map f) = sval f k := by
  induction k with
  | zero => rfl
  | succ k ih => rw [List.range_succ, List.map_append, val_append, ih, List.length_map, List.length_range]; simp [sval, val]
theorem sval_getD (xs : List Nat) (k : Nat) : sval (fun i => xs.getD i 0) k = val (xs.take k) := by
  induction k with
  | zero => simp [sval, val]
  | succ k ih => rw [sval, ih, val_take_succ_any]
theorem sval_getD_off (xs : List Nat) (off k : Nat) : sval (fun i => xs.getD (off + i) 0) k = val ((xs.drop off).take k) := by
  rw [← sval_getD]
  congr 1
  funext i
  simp [List.getD]
theorem sval_lt {f : Nat → Nat} (k : Nat) (h : ∀ i, i < k → f i < W64) : sval f k < W64 ^ k := by
  induction k with
  | zero => simp [sval]
  | succ k ih =>
    have h1 := ih (fun i hi => h i (by omega))
    have h2 : W64 ^ k * (f k + 1) ≤ W64 ^ k * W64 := Nat.mul_le_mul_left _ (h k (by omega))
    rw [Nat.mul_add, Nat.mul_one] at h2
    rw [sval, Nat.pow_succ]
    omega

/-- the carries of o + m y, beginning with c -/
def mc (m c : Nat) (o y : Nat → Nat) : Nat → Nat
  | 0 => c
  | i + 1 => (o i + m * y i + mc m c o y i) / 18446744073709551616
def mn (m c : Nat) (o y : Nat → Nat) (i : Nat) : Nat := (o i + m * y i + mc m c o y i) % 18446744073709551616
theorem mn_lt (m c : Nat) (o y : Nat → Nat) (i : Nat) : mn m c o y i < W64 := Nat.mod_lt _ (by omega)
theorem mn_val (m c : Nat) (o y : Nat → Nat) (k : Nat) : sval (mn m c o y) k + W64 ^ k * mc m c o y k = c + sval o k + m * sval y k := by
  induction k with
  | zero => simp [sval, mc]
  | succ k ih =>
    have e : mn m c o y k + W64 * mc m c o y (k + 1) = o k + m * y k + mc m c o y k := Nat.mod_add_div _ _
    have e2 : W64 ^ k * (mn m c o y k + W64 * mc m c o y (k + 1)) = W64 ^ k * (o k + m * y k + mc m c o y k) := by rw [e]
    simp only [Nat.mul_add] at e2
    have e3 : W64 ^ k * (W64 * mc m c o y (k + 1)) = W64 ^ (k + 1) * mc m c o y (k + 1) := by rw [Nat.pow_succ, Nat.mul_assoc]
    have e4 : W64 ^ k * (m * y k) = m * (W64 ^ k * y k) := by rw [Nat.mul_left_comm]
    simp only [sval, Nat.mul_add]
    omega
theorem mc_le_one {c : Nat} {o y : Nat → Nat} (hc : c ≤ 1) (ho : ∀ i, o i < W64) (hy : ∀ i, y i < W64) (i : Nat) : mc 1 c o y i ≤ 1 := by
  induction i with
  | zero => exact hc
  | succ i ih =>
    have h1 := ho i
    have h2 := hy i
    rw [W64_eq] at h1 h2
    simp only [mc]
    omega
theorem mc_lt {m c : Nat} {o y : Nat → Nat} (hm : m < W64) (hc : c < W64) (ho : ∀ i, o i < W64) (hy : ∀ i, y i < W64) (i : Nat) : mc m c o y i < W64 := by
  induction i with
  | zero => exact hc
  | succ i ih =>
    have h1 := ho i
    have h2 := hy i
    have hp : m * y i ≤ 18446744073709551615 * 18446744073709551615 := Nat.mul_le_mul (by rw [W64_eq] at hm; omega) (by rw [W64_eq] at h2; omega)
    rw [W64_eq] at h1 ih ⊢
    simp only [mc]
    generalize m * y i = p at *
    omega
/-- where the whole has room the last carry is 0 -/
theorem mc_zero {m c : Nat} {o y : Nat → Nat} {k : Nat} (h : c + sval o k + m * sval y k < W64 ^ k) : mc m c o y k = 0 := by
  have e := mn_val m c o y k
  rcases Nat.eq_zero_or_pos (mc m c o y k) with h0 | h0
  · exact h0
  · have : W64 ^ k * 1 ≤ W64 ^ k * mc m c o y k := Nat.mul_le_mul_left _ h0
    omega
theorem mn_val_room {m c : Nat} {o y : Nat → Nat} {k : Nat} (h : c + sval o k + m * sval y k < W64 ^ k) : sval (mn m c o y) k = c + sval o k + m * sval y k := by
  have e := mn_val m c o y k
  rw [mc_zero h] at e
  omega

/-- 1 where one word, less another one and what was borrowed, is none -/
def borrow (o y c : Nat) : Nat := if o < y + c then 1 else 0
/-- what o - y borrows -/
def bc (o y : Nat → Nat) : Nat → Nat
  | 0 => 0
  | i + 1 => borrow (o i) (y i) (bc o y i)
def bn (o y : Nat → Nat) (i : Nat) : Nat := (o i + 18446744073709551616 - y i - bc o y i) % 18446744073709551616
theorem bn_lt (o y : Nat → Nat) (i : Nat) : bn o y i < W64 := Nat.mod_lt _ (by omega)
theorem bc_le_one (o y : Nat → Nat) (i : Nat) : bc o y i ≤ 1 := by
  cases i with
  | zero => exact Nat.zero_le _
  | succ i => simp only [bc, borrow]; split <;> omega
theorem bn_val {o y : Nat → Nat} (ho : ∀ i, o i < W64) (hy : ∀ i, y i < W64) (k : Nat) : sval o k + W64 ^ k * bc o y k = sval (bn o y) k + sval y k := by
  induction k with
  | zero => simp [sval, bc]
  | succ k ih =>
    have h1 := ho k
    have h2 := hy k
    have h3 := bc_le_one o y k
    have e : o k + W64 * bc o y (k + 1) = bn o y k + y k + bc o y k := by
      rw [W64_eq] at h1 h2 ⊢
      simp only [bc, bn, borrow]
      split <;> omega
    have e2 : W64 ^ k * (o k + W64 * bc o y (k + 1)) = W64 ^ k * (bn o y k + y k + bc o y k) := by rw [e]
    simp only [Nat.mul_add] at e2
    have e3 : W64 ^ k * (W64 * bc o y (k + 1)) = W64 ^ (k + 1) * bc o y (k + 1) := by rw [Nat.pow_succ, Nat.mul_assoc]
    simp only [sval]
    omega
theorem bn_val_room {o y : Nat → Nat} (ho : ∀ i, o i < W64) (hy : ∀ i, y i < W64) {k : Nat} (h : sval y k ≤ sval o k) : sval (bn o y) k = sval o k - sval y k := by
  have e := bn_val ho hy k
  have h1 := sval_lt (f := bn o y) k (fun i _ => bn_lt o y i)
  have h2 := bc_le_one o y k
  have : bc o y k = 0 := by
    rcases Nat.eq_zero_or_pos (bc o y k) with h0 | h0
    · exact h0
    · have e1 : bc o y k = 1 := by omega
      rw [e1] at e
      omega
  rw [this] at e
  omega

theorem upd_wf {ws : List Nat} (h : Wf ws) (off k : Nat) {nw : Nat → Nat} (hn : ∀ i, nw i < W64) : Wf (upd ws off k nw) := by
  unfold upd
  refine (h.take _).append (Wf.append ?_ (h.drop _))
  intro x hx
  obtain ⟨i, _, rfl⟩ := List.mem_map.1 hx
  exact hn i
theorem upd_whole (ws : List Nat) (nw : Nat → Nat) : upd ws 0 ws.length nw = (List.range ws.length).map nw := by simp [upd]
theorem val_upd (ws : List Nat) (off k : Nat) (nw : Nat → Nat) (h : off + k ≤ ws.length) : val (upd ws off k nw) = val (ws.take off) + W64 ^ off * (sval nw k + W64 ^ k * val (ws.drop (off + k))) := by
  unfold upd
  rw [val_append, val_append, val_range_map, List.length_take, List.length_map, List.length_range, Nat.min_eq_left (by omega)]
theorem val_window (ws : List Nat) (off k : Nat) (h : off + k ≤ ws.length) : val ws = val (ws.take off) + W64 ^ off * (sval (fun i => ws.getD (off + i) 0) k + W64 ^ k * val (ws.drop (off + k))) := by
  rw [sval_getD_off, val_take_drop ws off (by omega), val_take_drop (ws.drop off) k (by rw [List.length_drop]; omega), List.drop_drop]
theorem val_high {ws : List Nat} {k : Nat} (hk : k ≤ ws.length) (h : val ws < W64 ^ k) : val (ws.drop k) = 0 := by
  have e := val_take_drop ws k hk
  rcases Nat.eq_zero_or_pos (val (ws.drop k)) with h0 | h0
  · exact h0
  · have : W64 ^ k * 1 ≤ W64 ^ k * val (ws.drop k) := Nat.mul_le_mul_left _ h0
    omega

theorem val_take_of_lt {xs : List Nat} {n : Nat} (h : val xs < W64 ^ n) : val (xs.take n) = val xs := by
  by_cases hn : n ≤ xs.length
  · have e := val_take_drop xs n hn
    rw [val_high hn h] at e
    simpa using e.symm
  · rw [List.take_of_length_le (by omega)]
/-- a + b, over all words of a -/
theorem add_whole {ws ys : List Nat} (h : Wf ws) (_hy : Wf ys) (hl : ys.length ≤ ws.length) (hr : val ws + val ys < W64 ^ ws.length) :
    Wf (upd ws 0 ws.length (mn 1 0 (fun i => ws.getD (0 + i) 0) (fun i => ys.getD i 0))) ∧ val (upd ws 0 ws.length (mn 1 0 (fun i => ws.getD (0 + i) 0) (fun i => ys.getD i 0))) = val ws + val ys := by
  refine ⟨upd_wf h _ _ (mn_lt _ _ _ _), ?_⟩
  have e1 : sval (fun i => ws.getD (0 + i) 0) ws.length = val ws := by rw [sval_getD_off]; simp
  have e2 : sval (fun i => ys.getD i 0) ws.length = val ys := by rw [sval_getD, List.take_of_length_le hl]
  rw [upd_whole, val_range_map, mn_val_room (by rw [e1, e2]; omega), e1, e2]
  omega
/-- a - b, over all words of a -/
theorem sub_whole {ws ys : List Nat} (h : Wf ws) (hy : Wf ys) (hr : val ys ≤ val ws) :
    Wf (upd ws 0 ws.length (bn (fun i => ws.getD (0 + i) 0) (fun i => ys.getD i 0))) ∧ val (upd ws 0 ws.length (bn (fun i => ws.getD (0 + i) 0) (fun i => ys.getD i 0))) = val ws - val ys := by
  refine ⟨upd_wf h _ _ (bn_lt _ _), ?_⟩
  have e1 : sval (fun i => ws.getD (0 + i) 0) ws.length = val ws := by rw [sval_getD_off]; simp
  have e2 : sval (fun i => ys.getD i 0) ws.length = val ys := by rw [sval_getD, val_take_of_lt (Nat.lt_of_le_of_lt hr (val_lt h))]
  rw [upd_whole, val_range_map, bn_val_room (fun i => h.getD _) (fun i => hy.getD i) (by rw [e1, e2]; exact hr), e1, e2]
/-- twice a, and a bit more -/
theorem double_whole {ws : List Nat} (h : Wf ws) (c : Nat) (hr : 2 * val ws + c < W64 ^ ws.length) :
    Wf (upd ws 0 ws.length (mn 1 c (fun i => ws.getD (0 + i) 0) (fun i => ws.getD (0 + i) 0))) ∧ val (upd ws 0 ws.length (mn 1 c (fun i => ws.getD (0 + i) 0) (fun i => ws.getD (0 + i) 0))) = 2 * val ws + c := by
  refine ⟨upd_wf h _ _ (mn_lt _ _ _ _), ?_⟩
  have e1 : sval (fun i => ws.getD (0 + i) 0) ws.length = val ws := by rw [sval_getD_off]; simp
  rw [upd_whole, val_range_map, mn_val_room (by rw [e1]; omega), e1]
  omega
/-- one row of a product: what is behind it is 0 -/
theorem mul_row {ws ys : List Nat} {x k n : Nat} (h : Wf ws) (hy : Wf ys) (hx : x < W64) (hn : ys.length + 1 = n) (hk : k + n ≤ ws.length) (hz : val ws < W64 ^ (k + ys.length)) :
    Wf (upd ws k n (mn x 0 (fun i => ws.getD (k + i) 0) (fun i => ys.getD i 0))) ∧ val (upd ws k n (mn x 0 (fun i => ws.getD (k + i) 0) (fun i => ys.getD i 0))) = val ws + W64 ^ k * (x * val ys) := by
  refine ⟨upd_wf h _ _ (mn_lt _ _ _ _), ?_⟩
  have e2 : sval (fun i => ys.getD i 0) n = val ys := by rw [sval_getD, List.take_of_length_le (by omega)]
  have e3 : val (ws.drop (k + ys.length)) = 0 := val_high (by omega) hz
  have e5 : sval (fun i => ws.getD (k + i) 0) n < W64 ^ ys.length := by
    have hw := val_window ws k n hk
    rcases Nat.lt_or_ge (sval (fun i => ws.getD (k + i) 0) n) (W64 ^ ys.length) with hlt | hge
    · exact hlt
    · have h1 : W64 ^ k * W64 ^ ys.length ≤ W64 ^ k * (sval (fun i => ws.getD (k + i) 0) n + W64 ^ n * val (ws.drop (k + n))) := Nat.mul_le_mul_left _ (by omega)
      rw [← Nat.pow_add] at h1
      omega
  have e6 : x * val ys ≤ (W64 - 1) * W64 ^ ys.length := Nat.mul_le_mul (by omega) (Nat.le_of_lt (val_lt hy))
  have e7 : (W64 - 1) * W64 ^ ys.length + W64 ^ ys.length = W64 ^ n := by
    rw [← hn, Nat.pow_succ, Nat.sub_mul, Nat.one_mul, Nat.mul_comm (W64 ^ ys.length) W64]
    have : W64 ^ ys.length ≤ W64 * W64 ^ ys.length := Nat.le_mul_of_pos_left _ W64_pos
    omega
  rw [val_upd _ _ _ _ hk, mn_val_room (by rw [e2]; omega), e2, val_window ws k n hk]
  simp only [Nat.mul_add]
  omega
end Go.Proofs.Ytocmmabpebbdaaa
