/- Bit, Bits. -/
import Derived.Test.YtocmmabpebbdaaaNatF
namespace Go.Proofs.Ytocmmabpebbdaaa
open Go.RowKit

theorem word_int {S : Nat → Prop} {v : Value} {xs : List Nat} (i : Int) (h0 : 0 ≤ i) (w : World) (h : SlS S .u64 w v xs) :
    Calls Try.prog 45 #[v, .int .i64 i] w fun e w' => e = .returned (.int .u64 ((xs.getD i.toNat 0 : Nat) : Int)) ∧ w' = w := by
  obtain ⟨n, rfl⟩ := Int.eq_ofNat_of_zero_le h0
  rw [Int.toNat_natCast]
  exact word_any n w h

theorem and_one_u64' (x : Nat) (hx : x < 18446744073709551616) : bits .and .u64 (x : Int) 1 = ((x % 2 : Nat) : Int) := by
  have := bits_and_u64 x 1 hx (by omega)
  rw [Nat.and_one_is_mod] at this
  exact this

/-- the bit of the worth 2^i -/
theorem bit_word (xs : List Nat) (h : Wf xs) (i : Nat) : xs.getD (i / 64) 0 / 2 ^ (i % 64) % 2 = val xs / 2 ^ i % 2 := by
  have hW : W64 = 2 ^ 64 := by rw [W64_eq]
  have key : ∀ k, val xs / W64 ^ k % W64 = xs.getD k 0 := by
    intro k
    by_cases hk : k < xs.length
    · rw [val_take_drop xs k (by omega)]
      have h1 := val_lt (h.take k)
      rw [List.length_take, Nat.min_eq_left (by omega)] at h1
      rw [Nat.add_mul_div_left _ _ (Nat.pow_pos W64_pos), Nat.div_eq_of_lt h1, Nat.zero_add, List.drop_eq_getElem_cons hk, val_cons, Nat.add_mul_mod_self_left]
      have h2 := h.getD k
      rw [List.getD_eq_getElem?_getD, List.getElem?_eq_getElem hk] at h2 ⊢
      exact Nat.mod_eq_of_lt h2
    · rw [List.getD_eq_getElem?_getD, List.getElem?_eq_none (by omega)]
      have h1 := val_lt h
      have h2 : W64 ^ xs.length ≤ W64 ^ k := Nat.pow_le_pow_right W64_pos (by omega)
      rw [Nat.div_eq_of_lt (by omega)]
      rfl
  rw [← key (i / 64), hW, ← Nat.pow_mul]
  have e : 2 ^ i = 2 ^ (64 * (i / 64)) * 2 ^ (i % 64) := by rw [← Nat.pow_add]; congr 1; omega
  rw [e, ← Nat.div_div_eq_div_mul]
  generalize val xs / 2 ^ (64 * (i / 64)) = m
  have e2 : (2 : Nat) ^ 64 = 2 ^ (i % 64) * 2 ^ (64 - i % 64) := by rw [← Nat.pow_add]; congr 1; omega
  rw [e2, Nat.mod_mul_right_div_self]
  have e3 : (2 : Nat) ^ (64 - i % 64) = 2 * 2 ^ (63 - i % 64) := by rw [← Nat.pow_succ']; congr 1; omega
  rw [e3, Nat.mod_mul_right_mod]

theorem Bit_any {S : Nat → Prop} {v : Value} {xs : List Nat} (i : Nat) (hi : i < 9223372036854775808) (w : World) (h : SlS S .u64 w v xs) (hx : Wf xs) :
    Calls Try.prog 23 #[v, .int .i64 i] w fun e w' => e = .returned (.int .u64 ((val xs / 2 ^ i % 2 : Nat) : Int)) ∧ w' = w := by
  have hw := word_int ((i : Int) / 64) (by omega) w h
  rw [← bit_word xs hx i]
  have hlt := hx.getD ((i : Int) / 64).toNat
  have e1 : ((i : Int) / 64).toNat = i / 64 := by omega
  rw [e1] at hw hlt
  generalize xs.getD (i / 64) 0 = x at *
  obtain ⟨a, n, cap, rfl⟩ := h.shape
  have h0 : 0 ≤ (i : Int) := by omega
  go_enter Try.func23, Try.ntmps23
  go_wp2_with (go_at_call 45; refine hw.mono ?_; rintro e w' ⟨rfl, rfl⟩)
  go_ret
  refine ⟨congrArg (fun n => Ending.returned (.int .u64 n)) ?_, rfl⟩
  rw [show (x : Int) / 2 ^ (i % 64) = ((x / 2 ^ (i % 64) : Nat) : Int) by simp, and_one_u64' _ (Nat.lt_of_le_of_lt (Nat.div_le_self _ _) (by rw [W64_eq] at hlt; exact hlt))]
end Go.Proofs.Ytocmmabpebbdaaa
