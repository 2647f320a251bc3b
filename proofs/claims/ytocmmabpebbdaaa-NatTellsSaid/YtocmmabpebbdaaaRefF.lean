/- The document's own answer: Digits. -/
import Derived.Test.YtocmmabpebbdaaaRefE
namespace Go.Proofs.Ytocmmabpebbdaaa
open Go.RowKit

/-- a number's digits, out of its words -/
def dig (xs : List Nat) (j : Nat) : Nat := xs.getD (j / 4) 0 / 2 ^ (16 * (j % 4)) % 65536
theorem dig_lt (xs : List Nat) (j : Nat) : dig xs j < Dig.W16 := by rw [Dig.W16_eq]; exact Nat.mod_lt _ (by omega)
theorem dig_sum (xs : List Nat) (h : Wf xs) (n : Nat) : Dig.sval (dig xs) (4 * n) = val (xs.take n) := by
  induction n with
  | zero => simp [Dig.sval, val]
  | succ n ih =>
    rw [show 4 * (n + 1) = 4 * n + 1 + 1 + 1 + 1 by omega]
    simp only [Dig.sval]
    rw [ih, val_take_succ_any]
    have hx := h.getD n
    have e0 : dig xs (4 * n) = xs.getD n 0 % 65536 := by
      unfold dig; rw [show 4 * n / 4 = n by omega, show 16 * (4 * n % 4) = 0 by omega, Nat.pow_zero, Nat.div_one]
    have e1 : dig xs (4 * n + 1) = xs.getD n 0 / 65536 % 65536 := by
      unfold dig; rw [show (4 * n + 1) / 4 = n by omega, show 16 * ((4 * n + 1) % 4) = 16 by omega]
    have e2 : dig xs (4 * n + 1 + 1) = xs.getD n 0 / 4294967296 % 65536 := by
      unfold dig; rw [show (4 * n + 1 + 1) / 4 = n by omega, show 16 * ((4 * n + 1 + 1) % 4) = 32 by omega]
    have e3 : dig xs (4 * n + 1 + 1 + 1) = xs.getD n 0 / 281474976710656 % 65536 := by
      unfold dig; rw [show (4 * n + 1 + 1 + 1) / 4 = n by omega, show 16 * ((4 * n + 1 + 1 + 1) % 4) = 48 by omega]
    rw [e0, e1, e2, e3]
    have hW : W64 ^ n = Dig.W16 ^ (4 * n) := by
      rw [W64_two, Dig.W16_two, ← Nat.pow_mul, ← Nat.pow_mul]; congr 1; omega
    have p2 : 65536 ^ (4 * n + 1 + 1) = 65536 ^ (4 * n) * 4294967296 := by rw [Nat.pow_succ, Nat.pow_succ, Nat.mul_assoc]
    have p3 : 65536 ^ (4 * n + 1 + 1 + 1) = 65536 ^ (4 * n) * 281474976710656 := by rw [Nat.pow_succ, Nat.pow_succ, Nat.pow_succ, Nat.mul_assoc, Nat.mul_assoc]
    rw [hW, Dig.W16_eq, p3, p2, Nat.pow_succ]
    rw [W64_eq] at hx
    generalize xs.getD n 0 = x at *
    generalize 65536 ^ (4 * n) = P
    have hs : x = x % 65536 + 65536 * (x / 65536 % 65536) + 4294967296 * (x / 4294967296 % 65536) + 281474976710656 * (x / 281474976710656 % 65536) := by omega
    have h1 : P * x = P * (x % 65536 + 65536 * (x / 65536 % 65536) + 4294967296 * (x / 4294967296 % 65536) + 281474976710656 * (x / 281474976710656 % 65536)) := by rw [← hs]
    rw [h1]
    simp only [Nat.mul_add, ← Nat.mul_assoc, Nat.add_assoc]
theorem ddigits_done (xs : List Nat) (h : Wf xs) : norm ((List.range (4 * xs.length)).map (dig xs)) = Dig.toW (val xs) := by
  have e := dig_sum xs h xs.length
  rw [List.take_length, ← Dig.val_range_map] at e
  have hw : Dig.Wf ((List.range (4 * xs.length)).map (dig xs)) := by
    intro x hx
    obtain ⟨i, _, rfl⟩ := List.mem_map.1 hx
    exact dig_lt _ _
  rw [← e, Dig.toW_val hw, dnorm_same]
theorem and_low (x : Nat) (hx : x < 18446744073709551616) : bits .and .u64 (x : Int) 65535 = ((x % 65536 : Nat) : Int) := by
  have := bits_and_u64 x 65535 hx (by omega)
  rw [show x &&& 65535 = x % 65536 from Nat.and_two_pow_sub_one_eq_mod x 16] at this
  exact this

set_option maxRecDepth 100000 in
set_option maxHeartbeats 1000000 in
theorem Digits_any {v : Value} {xs : List Nat} (w : World) (h : Sl w v xs) (hx : Wf xs) (hl : xs.length ≤ 1000) :
    Calls Try.prog 10 #[v] w fun e w' => ∃ r, e = .returned r ∧ SlS (fun b => b < w.heap.size) .u32 w' r (Dig.toW (val xs)) ∧ Below w.heap.size w w' := by
  obtain ⟨a, cap, rfl⟩ : ∃ a cap, v = .slice a xs.length cap := let ⟨a, c, e, _⟩ := h; ⟨a, c, e⟩
  obtain ⟨la, hla⟩ : ∃ la, la = xs.length := ⟨_, rfl⟩
  rw [← hla] at h hl ⊢
  have hla64 : (la : Int) ≤ 1000 := by omega
  have H := Lib.hid (And.intro h (And.intro hx hla))
  clear h hx hla hl
  go_enter Try.func10, Try.ntmps10
  go_wp2_with fail
  go_loopw [3, 4] (fun ov i wr => ∃ n : Nat, n ≤ la ∧ i = .int .i64 n ∧ wr.ownsRow w.heap.size 56 1 ov (4 * n) (wvs .u32 ((List.range (4 * n)).map (dig xs))) ∧ Below w.heap.size w wr) (fun _ i _ => la - (intOf i).toNat)
  case atStart => exact ⟨0, Nat.zero_le _, rfl, World.ownsRow_nil _ _ _ _, Below.refl _ _⟩
  case round =>
    obtain ⟨n, hn, rfl, hown, hb⟩ := hrel
    by_cases hlt : n < la
    · have hni : (n : Int) < la := by omega
      have HO := Lib.hid hown
      have HB := Lib.hid hb
      clear hown hb
      go_wp2_with fail
      go_loopw [3, 5] (fun ov i wr2 => ∃ k : Nat, k ≤ 4 ∧ i = .int .i64 k ∧ wr2.ownsRow w.heap.size 56 1 ov (4 * n + k) (wvs .u32 ((List.range (4 * n + k)).map (dig xs))) ∧ Below w.heap.size w wr2) (fun _ i _ => 4 - (intOf i).toNat)
      case atStart => exact ⟨0, by omega, rfl, HO.out, HB.out⟩
      case round =>
        obtain ⟨k, hk, rfl, hown, hb⟩ := hrel
        by_cases hlt2 : k < 4
        · have hki : (k : Int) < 4 := by omega
          obtain ⟨a', cap', e', g1, g2, g3, g4⟩ := H.out.1.below hb
          have hnl : n < xs.length := by have := H.out.2.2; omega
          rcases g4 with g4 | ⟨b0, off, rfl, _, hc⟩
          · subst g4; simp at hnl
          rw [← H.out.2.2] at e'
          cases e'
          have hcell := hc n hnl
          have hxw := H.out.2.1.getD n
          have hdg : dig xs (4 * n + k) = xs.getD n 0 / 2 ^ (16 * k) % 65536 := by
            unfold dig; rw [show (4 * n + k) / 4 = n by omega, show (4 * n + k) % 4 = k by omega]
          obtain ⟨d, hd⟩ : ∃ d, d = dig xs (4 * n + k) := ⟨_, rfl⟩
          obtain ⟨v', w', hrun, hown', hb'⟩ := append1 Try.underlying26 info_u32 (by omega) d hown hb.size (by omega)
          generalize xs.getD n 0 = x at *
          rw [W64_eq] at hxw
          have hq : x / 2 ^ (16 * k) < 18446744073709551616 := Nat.lt_of_le_of_lt (Nat.div_le_self _ _) hxw
          have hand : bits .and .u64 ((x : Int) / 2 ^ (16 * k)) 65535 = (d : Int) := by
            rw [show ((x : Int) / 2 ^ (16 * k)) = ((x / 2 ^ (16 * k) : Nat) : Int) by simp, and_low _ hq, hd, hdg]
          have hd2 : d < 65536 := by rw [hd, hdg]; exact Nat.mod_lt _ (by omega)
          have hw1 : IntKind.u32.wrap (d : Int) = (d : Int) := by rw [wrap_u32_nat, Nat.mod_eq_of_lt (by omega)]
          have hw2 : (d : Int) % 4294967296 = (d : Int) := by omega
          have HA := Lib.hid hown'
          have HBb := Lib.hid (hb.trans hb')
          have HD := Lib.hid (And.intro hd hk)
          clear hown hown' hb hb' hd hdg hq hxw hk hlt2 hc g1 g2 g3 hd2
          go_wp2_with (at_builtin; refine wpList_append_run rfl _ _ _ rfl rfl rfl hrun ?_)
          refine ⟨⟨k + 1, by omega, by go_num, ?_, HBb.out⟩, by simp [intOf]; omega⟩
          have := HA.out
          rw [show 4 * n + (k + 1) = 4 * n + k + 1 by omega, List.range_succ, List.map_append, List.map_cons, List.map_nil, ← HD.out.1]
          exact this
        · have hk4 : k = 4 := by omega
          subst hk4
          have HO2 := Lib.hid hown
          have HB2 := Lib.hid hb
          clear hown hb
          go_wp2_with fail
          refine ⟨⟨n + 1, by omega, by go_num, ?_, HB2.out⟩, by simp [intOf]; omega⟩
          rw [show 4 * (n + 1) = 4 * n + 4 by omega]
          exact HO2.out
    · have hk' : n = la := by omega
      have g1 : ¬ (n : Int) < la := by omega
      have htr := trim_any wr (sl_of_row' hown)
      rw [hk', H.out.2.2, ddigits_done xs H.out.2.1] at htr
      have HT := Lib.hid htr
      clear htr hown hn hk'
      go_wp2_with (go_at_call 33; refine HT.out.mono ?_; rintro e w' ⟨⟨r, rfl, hr⟩, hw⟩; obtain rfl := hw.symm; clear hw)
      go_ret
      exact ⟨_, rfl, hr, hb⟩
end Go.Proofs.Ytocmmabpebbdaaa
