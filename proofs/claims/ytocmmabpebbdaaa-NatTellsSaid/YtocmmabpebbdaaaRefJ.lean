/- The document's own answer: Bits. -/
import Derived.Test.YtocmmabpebbdaaaRefI
namespace Go.Proofs.Ytocmmabpebbdaaa
open Go.RowKit

theorem nbits_step (v k : Nat) : nbits (v % 2 ^ (k + 1)) = if v / 2 ^ k % 2 = 1 then k + 1 else nbits (v % 2 ^ k) := by
  have e := Nat.mod_pow_succ (b := 2) (k := k) (x := v)
  have hlt := Nat.mod_lt v (Nat.pow_pos (n := k) (show 0 < 2 by omega))
  split
  · rename_i h
    rw [h, Nat.mul_one] at e
    refine nbits_unique (by rw [e, Nat.pow_succ]; omega) (.inr (by rw [e, Nat.add_sub_cancel]; omega))
  · rename_i h
    have h0 : v / 2 ^ k % 2 = 0 := by omega
    rw [e, h0, Nat.mul_zero, Nat.add_zero]

set_option maxRecDepth 100000 in
set_option maxHeartbeats 1000000 in
theorem Bits_ref {v : Value} {xs : List Nat} (w : World) (h : SlD w v xs) (hx : Dig.Wf xs) (hl : xs.length ≤ 10000) :
    Calls Try.prog 19 #[v] w fun e w' => e = .returned (.int .i64 (nbits (Dig.val xs) : Nat)) ∧ w' = w := by
  obtain ⟨a, cap, rfl⟩ : ∃ a cap, v = .slice a xs.length cap := let ⟨a, c, e, _⟩ := h; ⟨a, c, e⟩
  obtain ⟨la, hla⟩ : ∃ la, la = xs.length := ⟨_, rfl⟩
  rw [← hla] at h hl ⊢
  have hla64 : (la : Int) ≤ 10000 := by omega
  have hlt : Dig.val xs < 2 ^ (16 * la) := by
    have := Dig.val_lt hx
    rw [Dig.W16_two, ← Nat.pow_mul, ← hla] at this
    exact this
  have H := Lib.hid (And.intro h (And.intro hx (And.intro hla hlt)))
  clear h hx hla hl hlt
  go_enter Try.func19, Try.ntmps19
  go_wp2_with fail
  go_loop [3, 4] (fun n i => ∃ k m : Nat, k ≤ 16 * la ∧ i = .int .i64 k ∧ n = .int .i64 m ∧ Hid (m = nbits (Dig.val xs % 2 ^ k))) (fun _ i => 16 * la - (intOf i).toNat)
  case atStart => exact ⟨0, 0, Nat.zero_le _, rfl, rfl, by rw [Nat.pow_zero, Nat.mod_one]; rfl⟩
  case round =>
    obtain ⟨k, m, hk, rfl, rfl, hm⟩ := hrel
    by_cases hlt : k < 16 * la
    · have hki : (k : Int) < 16 * (la : Int) := by omega
      have hbit := bit_ref k (by omega) w H.out.1 H.out.2.1
      have hst := nbits_step (Dig.val xs) k
      have hb2 : Dig.val xs / 2 ^ k % 2 = 0 ∨ Dig.val xs / 2 ^ k % 2 = 1 := by omega
      generalize Dig.val xs / 2 ^ k % 2 = bt at *
      have HB := Lib.hid hbit
      clear hbit
      rcases hb2 with rfl | rfl
      · rw [if_neg (by omega)] at hst
        have HS := Lib.hid (hm.out.trans hst.symm)
        have HK := Lib.hid (And.intro hk hlt)
        clear hst hm hk hlt
        go_wp2_with fail
        go_at_call 44
        refine HB.out.mono ?_
        rintro e w1 ⟨rfl, hw⟩
        obtain rfl := hw.symm
        clear hw
        go_wp2_with fail
        have := HK.out
        exact ⟨⟨k + 1, m, by omega, by go_num, rfl, HS.out⟩, by simp [intOf]; omega⟩
      · rw [if_pos rfl] at hst
        have HS := Lib.hid hst
        have HK := Lib.hid (And.intro hk hlt)
        clear hst hm hk hlt
        go_wp2_with fail
        go_at_call 44
        refine HB.out.mono ?_
        rintro e w1 ⟨rfl, hw⟩
        obtain rfl := hw.symm
        clear hw
        go_wp2_with fail
        have := HK.out
        exact ⟨⟨k + 1, k + 1, by omega, by go_num, by go_num, HS.out.symm⟩, by simp [intOf]; omega⟩
    · have hk' : k = 16 * la := by omega
      have g1 : ¬ (k : Int) < 16 * (la : Int) := by omega
      have HM : Hid (m = nbits (Dig.val xs)) := Lib.hid (by rw [hm.out, hk', Nat.mod_eq_of_lt H.out.2.2.2])
      clear hm hk hk'
      go_wp2_with fail
      go_ret
      exact ⟨by rw [← HM.out]; rfl, rfl⟩
end Go.Proofs.Ytocmmabpebbdaaa
