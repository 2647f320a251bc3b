/- Long division, bit by bit: the plain numbers. -/
import Derived.Test.YtocmmabpebbdaaaCarry
namespace Go.Proofs.Ytocmmabpebbdaaa

def setBit (q : List Nat) (p : Nat) : List Nat := q.set (p / 64) (q.getD (p / 64) 0 ||| 2 ^ (p % 64))
theorem setBit_length (q : List Nat) (p : Nat) : (setBit q p).length = q.length := by simp [setBit]
theorem W64_two : W64 = 2 ^ 64 := by rw [W64_eq]
theorem setBit_wf {q : List Nat} (h : Wf q) (p : Nat) : Wf (setBit q p) := by
  refine h.set _ _ ?_
  rw [W64_two]
  exact Nat.or_lt_two_pow (by have := h.getD (p / 64); rw [W64_two] at this; exact this) (Nat.pow_lt_pow_right (by omega) (by omega))
/-- where nothing stands below 2^(p+1), the bit p is added -/
theorem setBit_val {q : List Nat} (h : Wf q) (p : Nat) (hp : p < 64 * q.length) (hd : ∃ m, val q = 2 ^ (p + 1) * m) : val (setBit q p) = val q + 2 ^ p := by
  obtain ⟨m, hm⟩ := hd
  have hi : p / 64 < q.length := by omega
  have hs : p % 64 < 64 := Nat.mod_lt _ (by omega)
  have hpp : 64 * (p / 64) + p % 64 = p := by omega
  generalize p / 64 = i at *
  generalize p % 64 = s at *
  have hWi : W64 ^ i = 2 ^ (64 * i) := by rw [W64_two, ← Nat.pow_mul]
  have e0 := val_take_drop q (i + 1) (by omega)
  rw [val_take_succ q i hi] at e0
  have hlow := val_lt (h.take i)
  rw [List.length_take, Nat.min_eq_left (by omega)] at hlow
  -- the words below i are 0
  have e1 : 2 ^ (p + 1) * m = W64 ^ i * (2 ^ (s + 1) * m) := by
    rw [hWi, ← Nat.mul_assoc, ← Nat.pow_add]; congr 2; omega
  have e2 : W64 ^ (i + 1) * val (q.drop (i + 1)) = W64 ^ i * (2 ^ (s + 1) * (2 ^ (63 - s) * val (q.drop (i + 1)))) := by
    rw [← Nat.mul_assoc (2 ^ (s + 1)), ← Nat.pow_add, show s + 1 + (63 - s) = 64 by omega, ← W64_two, Nat.pow_succ, Nat.mul_assoc]
  have hz : val (q.take i) = 0 := by
    have e3 : val (q.take i) + W64 ^ i * (q.getD i 0 + 2 ^ (s + 1) * (2 ^ (63 - s) * val (q.drop (i + 1)))) = W64 ^ i * (2 ^ (s + 1) * m) := by
      rw [Nat.mul_add, ← e2, ← e1, ← hm, e0]; omega
    have e4 : (val (q.take i) + W64 ^ i * (q.getD i 0 + 2 ^ (s + 1) * (2 ^ (63 - s) * val (q.drop (i + 1))))) % W64 ^ i = 0 := by rw [e3]; exact Nat.mul_mod_right _ _
    rw [Nat.add_mul_mod_self_left, Nat.mod_eq_of_lt hlow] at e4
    exact e4
  have hw : ∃ c, q.getD i 0 = 2 ^ (s + 1) * c := by
    have e3 : W64 ^ i * (q.getD i 0 + 2 ^ (s + 1) * (2 ^ (63 - s) * val (q.drop (i + 1)))) = W64 ^ i * (2 ^ (s + 1) * m) := by
      rw [Nat.mul_add, ← e2, ← e1, ← hm, e0, hz]; omega
    have e4 := Nat.eq_of_mul_eq_mul_left (Nat.pow_pos W64_pos) e3
    refine ⟨m - 2 ^ (63 - s) * val (q.drop (i + 1)), ?_⟩
    rw [Nat.mul_sub]
    omega
  obtain ⟨c, hc⟩ := hw
  have hlen : i < (q.set i (q.getD i 0 ||| 2 ^ s)).length := by simpa using hi
  have hor : q.getD i 0 ||| 2 ^ s = q.getD i 0 + 2 ^ s := by
    rw [hc]; exact (Nat.two_pow_add_eq_or_of_lt (Nat.pow_lt_pow_right (by omega) (by omega)) c).symm
  have e5 := val_take_drop (q.set i (q.getD i 0 ||| 2 ^ s)) (i + 1) (by omega)
  rw [val_take_succ _ i hlen] at e5
  have e6 : (q.set i (q.getD i 0 ||| 2 ^ s)).take i = q.take i := by rw [List.take_set_of_le (Nat.le_refl _)]
  have e7 : (q.set i (q.getD i 0 ||| 2 ^ s)).drop (i + 1) = q.drop (i + 1) := by rw [List.drop_set_of_lt (by omega)]
  have e8 : (q.set i (q.getD i 0 ||| 2 ^ s)).getD i 0 = q.getD i 0 ||| 2 ^ s := by simp [List.getD, hi]
  rw [e6, e7, e8, hor, Nat.mul_add] at e5
  have e9 : W64 ^ i * 2 ^ s = 2 ^ p := by rw [hWi, ← Nat.pow_add]; congr 1
  unfold setBit
  rw [show p / 64 = i by omega, show p % 64 = s by omega, hor, e5, e9]
  omega

/-- one round of the division of lo by b, n bits in all: the k-th bit from above -/
def dstep (b n lo : Nat) (st : Nat × List Nat) (k : Nat) : Nat × List Nat :=
  if b ≤ 2 * st.1 + lo / 2 ^ (n - 1 - k) % 2 then (2 * st.1 + lo / 2 ^ (n - 1 - k) % 2 - b, setBit st.2 (n - 1 - k)) else (2 * st.1 + lo / 2 ^ (n - 1 - k) % 2, st.2)
def dsteps (b n lo : Nat) (st : Nat × List Nat) (ks : List Nat) : Nat × List Nat := ks.foldl (dstep b n lo) st
theorem dsteps_snoc (b n lo : Nat) (st : Nat × List Nat) (ks : List Nat) (k : Nat) : dsteps b n lo st (ks ++ [k]) = dstep b n lo (dsteps b n lo st ks) k := by simp [dsteps]
structure DInv (b l : Nat) (st : Nat × List Nat) : Prop where
  lt : st.1 < b
  wf : Wf st.2
  len : st.2.length = l
theorem dstep_inv {b n lo l k : Nat} {st : Nat × List Nat} (h : DInv b l st) : DInv b l (dstep b n lo st k) := by
  have h1 := h.lt
  have h2 : lo / 2 ^ (n - 1 - k) % 2 < 2 := Nat.mod_lt _ (by omega)
  unfold dstep
  split
  · exact ⟨by simp only; omega, setBit_wf h.wf _, by simp only [setBit_length]; exact h.len⟩
  · exact ⟨by simp only; omega, h.wf, h.len⟩
theorem dsteps_inv {b n lo l : Nat} {st : Nat × List Nat} (h : DInv b l st) (ks : List Nat) : DInv b l (dsteps b n lo st ks) := by
  unfold dsteps
  induction ks generalizing st with
  | nil => exact h
  | cons k ks ih => exact ih (dstep_inv h)
theorem bit_above (lo r0 n p : Nat) (hp : p < n) : (lo + 2 ^ n * r0) / 2 ^ p = lo / 2 ^ p + 2 * (2 ^ (n - 1 - p) * r0) := by
  have e : 2 ^ n * r0 = 2 ^ p * (2 * (2 ^ (n - 1 - p) * r0)) := by
    rw [← Nat.mul_assoc 2, ← Nat.pow_succ', ← Nat.mul_assoc, ← Nat.pow_add]; congr 2; omega
  rw [e, Nat.add_mul_div_left _ _ (Nat.pow_pos (by omega))]
/-- what k rounds have come to -/
theorem dsteps_val {b l r0 lo : Nat} (hr : r0 < b) (hlo : lo < 2 ^ (64 * l)) (k : Nat) (hk : k ≤ 64 * l) :
    ∃ Q, val (dsteps b (64 * l) lo (r0, List.replicate l 0) (List.range k)).2 = 2 ^ (64 * l - k) * Q ∧ Q * b + (dsteps b (64 * l) lo (r0, List.replicate l 0) (List.range k)).1 = (lo + 2 ^ (64 * l) * r0) / 2 ^ (64 * l - k) := by
  have hinv : ∀ k, DInv b l (dsteps b (64 * l) lo (r0, List.replicate l 0) (List.range k)) := fun k => dsteps_inv ⟨hr, Wf.zeros _, by simp⟩ _
  generalize hn : 64 * l = n at *
  induction k with
  | zero =>
    refine ⟨0, by simp [dsteps, val_zeros], ?_⟩
    simp only [dsteps, List.range_zero, List.foldl_nil, Nat.sub_zero, Nat.zero_mul, Nat.zero_add]
    rw [Nat.add_mul_div_left _ _ (Nat.pow_pos (by omega)), Nat.div_eq_of_lt hlo, Nat.zero_add]
  | succ k ih =>
    obtain ⟨Q, h1, h2⟩ := ih (by omega)
    have hI := hinv k
    rw [List.range_succ, dsteps_snoc]
    generalize dsteps b n lo (r0, List.replicate l 0) (List.range k) = st at *
    obtain ⟨r, q⟩ := st
    have hlen := hI.len
    have hwf := hI.wf
    simp only at h1 h2 hlen hwf
    obtain ⟨p, hp⟩ : ∃ p, p = n - 1 - k := ⟨_, rfl⟩
    have hp1 : n - k = p + 1 := by omega
    have hp2 : n - (k + 1) = p := by omega
    rw [hp1] at h1 h2
    rw [hp2]
    have hV : (lo + 2 ^ n * r0) / 2 ^ p = 2 * ((lo + 2 ^ n * r0) / 2 ^ (p + 1)) + lo / 2 ^ p % 2 := by
      have e1 := bit_above lo r0 n p (by omega)
      have e2 : (lo + 2 ^ n * r0) / 2 ^ (p + 1) = (lo + 2 ^ n * r0) / 2 ^ p / 2 := by rw [Nat.pow_succ, Nat.div_div_eq_div_mul]
      rw [e2]
      omega
    rw [hV, ← h2]
    unfold dstep
    simp only
    rw [← hp]
    have hpq : 2 ^ (p + 1) * Q = 2 ^ p * (2 * Q) := by rw [Nat.pow_succ, Nat.mul_assoc]
    split
    · rename_i hle
      refine ⟨2 * Q + 1, ?_, ?_⟩
      · simp only
        rw [setBit_val hwf p (by omega) ⟨Q, h1⟩, h1, hpq, Nat.mul_add, Nat.mul_one]
      · simp only
        rw [Nat.add_mul, Nat.mul_assoc, Nat.one_mul]
        omega
    · refine ⟨2 * Q, ?_, ?_⟩
      · simp only
        rw [h1, hpq]
      · simp only
        rw [Nat.mul_assoc]
        omega
/-- the whole division -/
theorem dsteps_all {b l r0 lo : Nat} (hr : r0 < b) (hlo : lo < 2 ^ (64 * l)) :
    val (dsteps b (64 * l) lo (r0, List.replicate l 0) (List.range (64 * l))).2 = (lo + 2 ^ (64 * l) * r0) / b ∧ (dsteps b (64 * l) lo (r0, List.replicate l 0) (List.range (64 * l))).1 = (lo + 2 ^ (64 * l) * r0) % b := by
  obtain ⟨Q, h1, h2⟩ := dsteps_val hr hlo (64 * l) (Nat.le_refl _)
  have h3 : (dsteps b (64 * l) lo (r0, List.replicate l 0) (List.range (64 * l))).1 < b := (dsteps_inv (l := l) ⟨hr, Wf.zeros _, by simp⟩ _).lt
  rw [Nat.sub_self, Nat.pow_zero, Nat.one_mul] at h1
  rw [Nat.sub_self, Nat.pow_zero, Nat.div_one] at h2
  rw [h1, ← h2]
  generalize (dsteps b (64 * l) lo (r0, List.replicate l 0) (List.range (64 * l))).1 = r at *
  constructor
  · rw [Nat.add_comm, Nat.add_mul_div_right _ _ (by omega), Nat.div_eq_of_lt h3, Nat.zero_add]
  · rw [Nat.add_comm, Nat.add_mul_mod_self_right, Nat.mod_eq_of_lt h3]
end Go.Proofs.Ytocmmabpebbdaaa
