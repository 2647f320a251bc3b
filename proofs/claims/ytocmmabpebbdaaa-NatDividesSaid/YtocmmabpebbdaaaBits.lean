/- Bits of words as natural numbers. -/
import Derived.Test.YtocmmabpebbdaaaNatMath
import Derived.WalkKit
namespace Go.Proofs.Ytocmmabpebbdaaa
open Go.RowKit

theorem wrap_u64_nat (n : Nat) : IntKind.u64.wrap (n : Int) = ((n % 18446744073709551616 : Nat) : Int) := by
  rw [IntKind.wrap_u64]; omega
theorem ofInt_nat64 (n : Nat) : BitVec.ofInt 64 (n : Int) = BitVec.ofNat 64 n := by
  simp
theorem bits_or_u64 (x y : Nat) (hx : x < 18446744073709551616) (hy : y < 18446744073709551616) : bits .or .u64 (x : Int) (y : Int) = ((x ||| y : Nat) : Int) := by
  have h : x ||| y < 2 ^ 64 := Nat.or_lt_two_pow (by omega) (by omega)
  show IntKind.u64.wrap (((BitVec.ofInt 64 (x : Int)) ||| (BitVec.ofInt 64 (y : Int))).toNat : Int) = _
  rw [ofInt_nat64, ofInt_nat64, BitVec.toNat_or, BitVec.toNat_ofNat, BitVec.toNat_ofNat, Nat.mod_eq_of_lt (by omega), Nat.mod_eq_of_lt (by omega), wrap_u64_nat, Nat.mod_eq_of_lt (by omega)]
theorem bits_and_u64 (x y : Nat) (hx : x < 18446744073709551616) (hy : y < 18446744073709551616) : bits .and .u64 (x : Int) (y : Int) = ((x &&& y : Nat) : Int) := by
  have h : x &&& y < 2 ^ 64 := Nat.and_lt_two_pow _ (by omega)
  show IntKind.u64.wrap (((BitVec.ofInt 64 (x : Int)) &&& (BitVec.ofInt 64 (y : Int))).toNat : Int) = _
  rw [ofInt_nat64, ofInt_nat64, BitVec.toNat_and, BitVec.toNat_ofNat, BitVec.toNat_ofNat, Nat.mod_eq_of_lt (by omega), Nat.mod_eq_of_lt (by omega), wrap_u64_nat, Nat.mod_eq_of_lt (by omega)]
theorem or_apart (a i b : Nat) (hb : b < 2 ^ i) : (2 ^ i * a) ||| b = 2 ^ i * a + b := (Nat.two_pow_add_eq_or_of_lt hb a).symm
/-- twice a word, and a bit more -/
theorem double_or (o c : Nat) (_ho : o < 18446744073709551616) (hc : c ≤ 1) :
    bits .or .u64 (IntKind.u64.wrap ((o : Int) * 2)) (c : Int) = (((2 * o + c) % 18446744073709551616 : Nat) : Int) := by
  have e : ((o : Int) * 2) = ((2 * o : Nat) : Int) := by omega
  rw [e, wrap_u64_nat, bits_or_u64 _ _ (by omega) (by omega)]
  have h1 : 2 * o % 18446744073709551616 = 2 ^ 1 * (o % 9223372036854775808) := by omega
  rw [h1, or_apart _ 1 c (by omega)]
  congr 1
  omega
theorem double_high (o c : Nat) (_ho : o < 18446744073709551616) (hc : c ≤ 1) : (o : Int) / 9223372036854775808 = (((2 * o + c) / 18446744073709551616 : Nat) : Int) := by omega
/-- a word, and one bit of it set -/
theorem or_bit (y s : Nat) (hy : y < 18446744073709551616) (hs : s < 64) : bits .or .u64 (y : Int) (IntKind.u64.wrap (2 ^ s)) = ((y ||| 2 ^ s : Nat) : Int) := by
  have h : 2 ^ s < 2 ^ 64 := Nat.pow_lt_pow_right (by omega) hs
  have e : (2 ^ s : Int) = ((2 ^ s : Nat) : Int) := by simp
  rw [e, wrap_u64_nat, Nat.mod_eq_of_lt (by omega), bits_or_u64 _ _ hy (by omega)]
end Go.Proofs.Ytocmmabpebbdaaa
