/- Bytes of numbers: the plain numbers. -/
import Derived.Test.YtocmmabpebbdaaaDiv
namespace Go.Proofs.Ytocmmabpebbdaaa

theorem snoc_ind {P : List Nat → Prop} (h0 : P []) (h1 : ∀ l x, P l → P (l ++ [x])) (l : List Nat) : P l := by
  have h : ∀ l : List Nat, P l.reverse := by
    intro l
    induction l with
    | nil => exact h0
    | cons x l ih => rw [List.reverse_cons]; exact h1 _ _ ih
  have := h l.reverse
  rwa [List.reverse_reverse] at this
def bytesOf (m n : Nat) : List Nat := (List.range n).map fun i => m / 2 ^ (8 * (n - 1 - i)) % 256
theorem bytesOf_length (m n : Nat) : (bytesOf m n).length = n := by simp [bytesOf]
theorem bytesOf_getD (m n i : Nat) (h : i < n) : (bytesOf m n).getD i 0 = m / 2 ^ (8 * (n - 1 - i)) % 256 := by simp [bytesOf, List.getD, h]
theorem bytesOf_lt (m n : Nat) : ∀ x ∈ bytesOf m n, x < 256 := by
  intro x hx
  simp only [bytesOf, List.mem_map] at hx
  obtain ⟨i, _, rfl⟩ := hx
  exact Nat.mod_lt _ (by omega)
def fromB (bs : List Nat) : Nat := bs.foldl (fun a x => a * 256 + x) 0
theorem fromB_snoc (bs : List Nat) (x : Nat) : fromB (bs ++ [x]) = fromB bs * 256 + x := by simp [fromB]
theorem fromB_lt (bs : List Nat) (h : ∀ x ∈ bs, x < 256) : fromB bs < 2 ^ (8 * bs.length) := by
  revert h
  refine snoc_ind (P := fun bs => (∀ x ∈ bs, x < 256) → fromB bs < 2 ^ (8 * bs.length)) ?_ ?_ bs
  · intro _; simp [fromB]
  · intro bs x ih h
    rw [fromB_snoc]
    have h1 := ih (fun y hy => h y (by simp [hy]))
    have h2 := h x (by simp)
    rw [List.length_append, List.length_singleton, Nat.mul_add, Nat.pow_add]
    have h3 : (fromB bs + 1) * 256 ≤ 2 ^ (8 * bs.length) * 256 := Nat.mul_le_mul_right _ h1
    show fromB bs * 256 + x < 2 ^ (8 * bs.length) * 256
    omega
/-- the first k bytes of a number are the number without the others -/
theorem fromB_take_bytesOf (m n : Nat) (hm : m < 2 ^ (8 * n)) (k : Nat) (hk : k ≤ n) : fromB ((bytesOf m n).take k) = m / 2 ^ (8 * (n - k)) := by
  induction k with
  | zero => rw [List.take_zero, Nat.sub_zero, Nat.div_eq_of_lt hm]; rfl
  | succ k ih =>
    have hlt : k < (bytesOf m n).length := by rw [bytesOf_length]; omega
    rw [List.take_succ_eq_append_getElem hlt, fromB_snoc, ih (by omega)]
    have e : (bytesOf m n)[k] = m / 2 ^ (8 * (n - (k + 1))) % 256 := by
      have := bytesOf_getD m n k (by omega)
      rw [List.getD_eq_getElem?_getD, List.getElem?_eq_getElem hlt] at this
      rw [show n - (k + 1) = n - 1 - k by omega]
      exact this
    rw [e]
    have e2 : 2 ^ (8 * (n - k)) = 2 ^ (8 * (n - (k + 1))) * 256 := by
      rw [show 8 * (n - k) = 8 * (n - (k + 1)) + 8 by omega, Nat.pow_add]
    rw [e2, ← Nat.div_div_eq_div_mul]
    omega
theorem fromB_bytesOf (m n : Nat) (hm : m < 2 ^ (8 * n)) : fromB (bytesOf m n) = m := by
  have := fromB_take_bytesOf m n hm n (Nat.le_refl _)
  rw [Nat.sub_self, Nat.mul_zero, Nat.pow_zero, Nat.div_one, List.take_of_length_le (by rw [bytesOf_length]; exact Nat.le_refl _)] at this
  exact this
theorem bytesOf_fromB_aux (bs : List Nat) (h : ∀ x ∈ bs, x < 256) : ∀ i, i < bs.length → fromB bs / 2 ^ (8 * (bs.length - 1 - i)) % 256 = bs.getD i 0 := by
  revert h
  refine snoc_ind (P := fun bs => (∀ x ∈ bs, x < 256) → ∀ i, i < bs.length → fromB bs / 2 ^ (8 * (bs.length - 1 - i)) % 256 = bs.getD i 0) ?_ ?_ bs
  · intro _ i hi; simp at hi
  · intro bs x ih h i hi
    rw [fromB_snoc]
    rw [List.length_append, List.length_singleton] at hi ⊢
    have hx := h x (by simp)
    by_cases hi2 : i < bs.length
    · have := ih (fun y hy => h y (by simp [hy])) i hi2
      rw [show 8 * (bs.length + 1 - 1 - i) = 8 + 8 * (bs.length - 1 - i) by omega, Nat.pow_add, ← Nat.div_div_eq_div_mul]
      have e : (fromB bs * 256 + x) / 2 ^ 8 = fromB bs := by omega
      rw [e, this]
      simp [List.getD, List.getElem?_append_left hi2]
    · have : i = bs.length := by omega
      subst this
      rw [show 8 * (bs.length + 1 - 1 - bs.length) = 0 by omega, Nat.pow_zero, Nat.div_one]
      have e : (fromB bs * 256 + x) % 256 = x := by omega
      rw [e]
      simp [List.getD]
theorem bytesOf_fromB (bs : List Nat) (h : ∀ x ∈ bs, x < 256) : bytesOf (fromB bs) bs.length = bs := by
  apply List.ext_getElem
  · rw [bytesOf_length]
  · intro i h1 h2
    have e1 := bytesOf_getD (fromB bs) bs.length i h2
    have e2 := bytesOf_fromB_aux bs h i h2
    rw [List.getD_eq_getElem?_getD, List.getElem?_eq_getElem h1] at e1
    rw [List.getD_eq_getElem?_getD, List.getElem?_eq_getElem h2] at e2
    exact e1.trans e2

/-- x, below 2^d, laid at the place p over nothing -/
theorem setAt_val {q : List Nat} (h : Wf q) (p d x : Nat) (hp : p < 64 * q.length) (hd : p % 64 + d ≤ 64) (hx : x < 2 ^ d) (hz : ∃ m, val q = 2 ^ (p + d) * m) :
    val (q.set (p / 64) (q.getD (p / 64) 0 ||| x * 2 ^ (p % 64))) = val q + x * 2 ^ p ∧ Wf (q.set (p / 64) (q.getD (p / 64) 0 ||| x * 2 ^ (p % 64))) := by
  obtain ⟨m, hm⟩ := hz
  have hi : p / 64 < q.length := by omega
  have hs : p % 64 < 64 := Nat.mod_lt _ (by omega)
  have hpp : 64 * (p / 64) + p % 64 = p := by omega
  have hg := h.getD (p / 64)
  generalize p / 64 = i at *
  generalize p % 64 = s at *
  have hxs : x * 2 ^ s < 2 ^ (s + d) := by rw [Nat.add_comm, Nat.pow_add]; exact Nat.mul_lt_mul_of_pos_right hx (Nat.pow_pos (by omega))
  have hx64 : x * 2 ^ s < 2 ^ 64 := Nat.lt_of_lt_of_le hxs (Nat.pow_le_pow_right (by omega) hd)
  refine ⟨?_, h.set _ _ (by rw [W64_two] at hg ⊢; exact Nat.or_lt_two_pow hg hx64)⟩
  have hWi : W64 ^ i = 2 ^ (64 * i) := by rw [W64_two, ← Nat.pow_mul]
  have e0 := val_take_drop q (i + 1) (by omega)
  rw [val_take_succ q i hi] at e0
  have hlow := val_lt (h.take i)
  rw [List.length_take, Nat.min_eq_left (by omega)] at hlow
  have e1 : 2 ^ (p + d) * m = W64 ^ i * (2 ^ (s + d) * m) := by
    rw [hWi, ← Nat.mul_assoc, ← Nat.pow_add]; congr 2; omega
  have e2 : W64 ^ (i + 1) * val (q.drop (i + 1)) = W64 ^ i * (2 ^ (s + d) * (2 ^ (64 - (s + d)) * val (q.drop (i + 1)))) := by
    rw [← Nat.mul_assoc (2 ^ (s + d)), ← Nat.pow_add, show s + d + (64 - (s + d)) = 64 by omega, ← W64_two, Nat.pow_succ, Nat.mul_assoc]
  have hz : val (q.take i) = 0 := by
    have e3 : val (q.take i) + W64 ^ i * (q.getD i 0 + 2 ^ (s + d) * (2 ^ (64 - (s + d)) * val (q.drop (i + 1)))) = W64 ^ i * (2 ^ (s + d) * m) := by
      rw [Nat.mul_add, ← e2, ← e1, ← hm, e0]; omega
    have e4 : (val (q.take i) + W64 ^ i * (q.getD i 0 + 2 ^ (s + d) * (2 ^ (64 - (s + d)) * val (q.drop (i + 1))))) % W64 ^ i = 0 := by rw [e3]; exact Nat.mul_mod_right _ _
    rw [Nat.add_mul_mod_self_left, Nat.mod_eq_of_lt hlow] at e4
    exact e4
  have hw : ∃ c, q.getD i 0 = 2 ^ (s + d) * c := by
    have e3 : W64 ^ i * (q.getD i 0 + 2 ^ (s + d) * (2 ^ (64 - (s + d)) * val (q.drop (i + 1)))) = W64 ^ i * (2 ^ (s + d) * m) := by
      rw [Nat.mul_add, ← e2, ← e1, ← hm, e0, hz]; omega
    have e4 := Nat.eq_of_mul_eq_mul_left (Nat.pow_pos W64_pos) e3
    refine ⟨m - 2 ^ (64 - (s + d)) * val (q.drop (i + 1)), ?_⟩
    rw [Nat.mul_sub]
    omega
  obtain ⟨c, hc⟩ := hw
  have hlen : i < (q.set i (q.getD i 0 ||| x * 2 ^ s)).length := by simpa using hi
  have hor : q.getD i 0 ||| x * 2 ^ s = q.getD i 0 + x * 2 ^ s := by
    rw [hc]; exact (Nat.two_pow_add_eq_or_of_lt hxs c).symm
  have e5 := val_take_drop (q.set i (q.getD i 0 ||| x * 2 ^ s)) (i + 1) (by omega)
  rw [val_take_succ _ i hlen] at e5
  have e6 : (q.set i (q.getD i 0 ||| x * 2 ^ s)).take i = q.take i := by rw [List.take_set_of_le (Nat.le_refl _)]
  have e7 : (q.set i (q.getD i 0 ||| x * 2 ^ s)).drop (i + 1) = q.drop (i + 1) := by rw [List.drop_set_of_lt (by omega)]
  have e8 : (q.set i (q.getD i 0 ||| x * 2 ^ s)).getD i 0 = q.getD i 0 ||| x * 2 ^ s := by simp [List.getD, hi]
  rw [e6, e7, e8, hor, Nat.mul_add] at e5
  have e9 : W64 ^ i * (x * 2 ^ s) = x * 2 ^ p := by
    rw [hWi, Nat.mul_left_comm, ← Nat.pow_add]; congr 2
  rw [hor, e5, e9]
  omega
end Go.Proofs.Ytocmmabpebbdaaa
