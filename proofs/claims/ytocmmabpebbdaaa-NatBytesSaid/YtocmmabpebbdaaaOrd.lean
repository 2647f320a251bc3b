/- Order of numbers, word by word. -/
import Derived.Test.YtocmmabpebbdaaaNatMath
namespace Go.Proofs.Ytocmmabpebbdaaa

/-- -1, 0 or 1 -/
def cmp3 (m n : Nat) : Int := if m < n then -1 else if n < m then 1 else 0
theorem cmp3_lt {m n : Nat} (h : m < n) : cmp3 m n = -1 := by simp [cmp3, h]
theorem cmp3_gt {m n : Nat} (h : n < m) : cmp3 m n = 1 := by simp [cmp3, h]; omega
theorem cmp3_eq {m n : Nat} (h : m = n) : cmp3 m n = 0 := by simp [cmp3, h]

theorem val_ge_of_last {xs : List Nat} (h : xs ≠ []) (hl : xs.getD (xs.length - 1) 0 ≠ 0) : W64 ^ (xs.length - 1) ≤ val xs := by
  have hp : 0 < xs.length := List.length_pos_iff.2 h
  have e := val_take_succ xs (xs.length - 1) (by omega)
  rw [show xs.length - 1 + 1 = xs.length by omega, List.take_length] at e
  have : W64 ^ (xs.length - 1) * 1 ≤ W64 ^ (xs.length - 1) * xs.getD (xs.length - 1) 0 := Nat.mul_le_mul_left _ (by omega)
  omega
/-- the longer one of two in form is the greater -/
theorem val_lt_of_length {xs ys : List Nat} (hx : Wf xs) (h : (norm xs).length < (norm ys).length) : val xs < val ys := by
  rw [← norm_val xs, ← norm_val ys]
  have h1 := val_lt (norm_wf hx)
  have hne : norm ys ≠ [] := by intro e; rw [e] at h; simp at h
  have h2 := val_ge_of_last hne (norm_last hne)
  have h3 : W64 ^ (norm xs).length ≤ W64 ^ ((norm ys).length - 1) := Nat.pow_le_pow_right W64_pos (by omega)
  omega
theorem drop_eq_of_getD {xs ys : List Nat} (k : Nat) (hl : xs.length = ys.length) (h : ∀ j, k ≤ j → j < xs.length → xs.getD j 0 = ys.getD j 0) : xs.drop k = ys.drop k := by
  apply List.ext_getElem (by rw [List.length_drop, List.length_drop, hl])
  intro j h1 h2
  rw [List.length_drop] at h1 h2
  have := h (k + j) (by omega) (by omega)
  rw [List.getElem_drop, List.getElem_drop]
  simpa [List.getD, show k + j < xs.length by omega, show k + j < ys.length by omega] using this
/-- where the words above are the same, the first one that is not tells -/
theorem val_lt_of_word {xs ys : List Nat} (hx : Wf xs) (k : Nat) (hl : xs.length = ys.length) (hk : k < xs.length) (h : ∀ j, k + 1 ≤ j → j < xs.length → xs.getD j 0 = ys.getD j 0)
    (hlt : xs.getD k 0 < ys.getD k 0) : val xs < val ys := by
  have e := drop_eq_of_getD (k + 1) hl h
  rw [val_take_drop xs (k + 1) (by omega), val_take_drop ys (k + 1) (by omega), e, val_take_succ xs k hk, val_take_succ ys k (by omega)]
  have h1 := val_lt (hx.take k)
  rw [List.length_take, Nat.min_eq_left (by omega)] at h1
  have h2 : W64 ^ k * (xs.getD k 0 + 1) ≤ W64 ^ k * ys.getD k 0 := Nat.mul_le_mul_left _ hlt
  rw [Nat.mul_add, Nat.mul_one] at h2
  omega
theorem val_eq_of_words {xs ys : List Nat} (hl : xs.length = ys.length) (h : ∀ j, j < xs.length → xs.getD j 0 = ys.getD j 0) : val xs = val ys := by
  have e := drop_eq_of_getD 0 hl (fun j _ hj => h j hj)
  simp only [List.drop_zero] at e
  rw [e]
end Go.Proofs.Ytocmmabpebbdaaa
