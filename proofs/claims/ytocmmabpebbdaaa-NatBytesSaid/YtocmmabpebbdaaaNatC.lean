/- The closures of takeFrom, addMultiple, double. -/
import Derived.Test.YtocmmabpebbdaaaNatB
import Derived.Test.YtocmmabpebbdaaaShelf
import Derived.Test.YtocmmabpebbdaaaBits
import Derived.Shelf.Spec.BitsCarry
namespace Go.Proofs.Ytocmmabpebbdaaa
open Go.RowKit

theorem run_Sub64 (x y c : Nat) (hc : c ≤ 1) (w : World) :
    (callFunc 51 #[.int .u64 x, .int .u64 y, .int .u64 c]).run Try.prog w =
      .ok (.value (.tuple #[.int .u64 (((x + 18446744073709551616 - y - c) % 18446744073709551616 : Nat) : Int), .int .u64 ((if x < y + c then 1 else 0 : Nat) : Int)])) w := by
  rw [run_callFunc_extern Try.func51 (by kernel_rfl) (by kernel_rfl) (by kernel_rfl) (e := sub64Entry) (by kernel_rfl), run_sub64 x y c hc]
  rfl

theorem takeFrom1_any {S : Nat → Prop} {v : Value} {ys : List Nat} (i o c : Nat) (pb pc : Addr) (w : World)
    (cb : w.cell? pb = some v) (h : SlS S .u64 w v ys) (cc : w.cell? pc = some (.int .u64 c)) (fc : w.frozen? pc = false) (hc : c ≤ 1) :
    Calls Try.prog 50 #[.int .i64 i, .int .u64 o, .pointer (some pb), .pointer (some pc)] w fun e w' =>
      e = .returned (.int .u64 (((o + 18446744073709551616 - ys.getD i 0 - c) % 18446744073709551616 : Nat) : Int)) ∧ ∃ q, w' = (w.setCell pc (.int .u64 ((borrow o (ys.getD i 0) c : Nat) : Int))).drewN q := by
  have hadd := run_Sub64 o (ys.getD i 0) c hc
  obtain ⟨a, cap, rfl, hlc, hcap, hnil, hr⟩ := h
  have hw := fun (w0 : World) (hw0 : w0.heap = w.heap) => word_any i w0 (S := S) (v := .slice a ys.length cap) ⟨a, cap, rfl, hlc, hcap, hnil, hr.heap hw0⟩
  change ∀ w, _ = Result.ok (Next.value (Value.tuple #[_, .int .u64 ((borrow o (ys.getD i 0) c : Nat) : Int)])) w at hadd
  generalize borrow o (ys.getD i 0) c = bo at *
  generalize ys.getD i 0 = y at *
  have HW := Lib.hid hw
  clear hw
  go_enter Try.func50, Try.ntmps50
  go_wp2_with fail
  go_still_tail 10, (by kernel_rfl)
  still_call (HW.out _ rfl)
  repeat still_step
  refine wpStill_nil ?_
  change wpList _ _ _ _ _ w.drew
  go_wp2
  go_ret
  exact ⟨rfl, 1, rfl⟩

theorem run_Add64_of (x y c s d : Nat) (hc : c ≤ 1) (hs : s < 18446744073709551616) (h : s + 18446744073709551616 * d = x + y + c) (w : World) :
    (callFunc 49 #[.int .u64 x, .int .u64 y, .int .u64 c]).run Try.prog w = .ok (.value (.tuple #[.int .u64 s, .int .u64 d])) w := by
  rw [run_Add64 x y c hc]
  rw [show (x + y + c) % 18446744073709551616 = s by omega, show (x + y + c) / 18446744073709551616 = d by omega]

theorem mul64_any (x y hi lo : Nat) (hx : x < 18446744073709551616) (hy : y < 18446744073709551616) (hl : lo < 18446744073709551616) (h : lo + 18446744073709551616 * hi = x * y) (w : World) :
    Calls Try.prog 53 #[.int .u64 x, .int .u64 y] w fun e w' => e = .returned (.tuple #[.int .u64 hi, .int .u64 lo]) ∧ w' = w := by
  have h1 := Try.bits_Mul64 x y hx hy w
  generalize x * y = p at *
  rw [show p / 18446744073709551616 = hi by omega, show p % 18446744073709551616 = lo by omega] at h1
  exact h1

set_option maxHeartbeats 400000 in
theorem addMultiple1_any {S : Nat → Prop} {v : Value} {ys : List Nat} (i o x c : Nat) (px pb pc : Addr) (w : World)
    (cx : w.cell? px = some (.int .u64 x)) (cb : w.cell? pb = some v) (h : SlS S .u64 w v ys) (cc : w.cell? pc = some (.int .u64 c)) (fc : w.frozen? pc = false)
    (hx : x < 18446744073709551616) (hy : ys.getD i 0 < 18446744073709551616) (ho : o < 18446744073709551616) (hc : c < 18446744073709551616) :
    Calls Try.prog 52 #[.int .i64 i, .int .u64 o, .pointer (some px), .pointer (some pb), .pointer (some pc)] w fun e w' =>
      e = .returned (.int .u64 (((o + x * ys.getD i 0 + c) % 18446744073709551616 : Nat) : Int)) ∧ ∃ q, w' = (w.setCell pc (.int .u64 (((o + x * ys.getD i 0 + c) / 18446744073709551616 : Nat) : Int))).drewN q := by
  obtain ⟨a, cap, rfl, hlc, hcap, hnil, hr⟩ := h
  have hw := fun (w0 : World) (hw0 : w0.heap = w.heap) => word_any i w0 (S := S) (v := .slice a ys.length cap) ⟨a, cap, rfl, hlc, hcap, hnil, hr.heap hw0⟩
  generalize ys.getD i 0 = y at *
  have hp : x * y ≤ 18446744073709551615 * 18446744073709551615 := Nat.mul_le_mul (by omega) (by omega)
  obtain ⟨hi, lo, c1, l1, c2, l2, h1, h2, h3, h4, h5, h6⟩ : ∃ hi lo c1 l1 c2 l2 : Nat, lo < 18446744073709551616 ∧ lo + 18446744073709551616 * hi = x * y ∧ l1 < 18446744073709551616 ∧ l1 + 18446744073709551616 * c1 = lo + o + 0 ∧
      l2 < 18446744073709551616 ∧ l2 + 18446744073709551616 * c2 = l1 + c + 0 :=
    ⟨x * y / 18446744073709551616, x * y % 18446744073709551616, (x * y % 18446744073709551616 + o + 0) / 18446744073709551616, (x * y % 18446744073709551616 + o + 0) % 18446744073709551616,
      ((x * y % 18446744073709551616 + o + 0) % 18446744073709551616 + c + 0) / 18446744073709551616, ((x * y % 18446744073709551616 + o + 0) % 18446744073709551616 + c + 0) % 18446744073709551616,
      by omega, by omega, by omega, by omega, by omega, by omega⟩
  have hm := fun w0 => mul64_any x y hi lo hx hy h1 h2 w0
  have ha1 : ∀ w, (callFunc 49 #[.int .u64 lo, .int .u64 o, .int .u64 0]).run Try.prog w = .ok (.value (.tuple #[.int .u64 l1, .int .u64 c1])) w := run_Add64_of lo o 0 l1 c1 (by omega) h3 h4
  have ha2 : ∀ w, (callFunc 49 #[.int .u64 l1, .int .u64 c, .int .u64 0]).run Try.prog w = .ok (.value (.tuple #[.int .u64 l2, .int .u64 c2])) w := run_Add64_of l1 c 0 l2 c2 (by omega) h5 h6
  have hb1 : (hi : Int) + (c1 : Int) < 18446744073709551616 := by generalize x * y = p at *; omega
  have hb2 : (hi : Int) + (c1 : Int) + (c2 : Int) < 18446744073709551616 := by generalize x * y = p at *; omega
  have e1 : (o + x * y + c) % 18446744073709551616 = l2 := by generalize x * y = p at *; omega
  have e2 : (o + x * y + c) / 18446744073709551616 = hi + c1 + c2 := by generalize x * y = p at *; omega
  rw [e1, e2]
  have HW := Lib.hid hw
  have HM := Lib.hid hm
  clear hw hm h1 h2 h3 h4 h5 h6 e1 e2 hp hx hy ho hc
  go_enter Try.func52, Try.ntmps52
  go_wp2_with fail
  go_quiet (first | (go_at_call 45; exact Calls.quiet_of_same (HW.out _ rfl)) | (go_at_call 53; exact Calls.quiet_of_same (HM.out _)))
  go_wp2
  go_ret
  exact ⟨rfl, nq, by simp only [Int.natCast_add]; rfl⟩

theorem double1_any (i : Int) (o c : Nat) (pc : Addr) (w : World)
    (cc : w.cell? pc = some (.int .u64 c)) (fc : w.frozen? pc = false) (ho : o < 18446744073709551616) (hc : c ≤ 1) :
    Calls Try.prog 55 #[.int .i64 i, .int .u64 o, .pointer (some pc)] w fun e w' =>
      e = .returned (.int .u64 (((2 * o + c) % 18446744073709551616 : Nat) : Int)) ∧ ∃ q, w' = (w.setCell pc (.int .u64 (((2 * o + c) / 18446744073709551616 : Nat) : Int))).drewN q := by
  go_enter Try.func55, Try.ntmps55
  go_wp2
  go_ret
  refine ⟨congrArg (fun n => Ending.returned (.int .u64 n)) (double_or o c ho hc), 0, ?_⟩
  rw [double_high o c ho hc]
  rfl
end Go.Proofs.Ytocmmabpebbdaaa
