/- Bits. -/
import Derived.Test.YtocmmabpebbdaaaNatG
import Derived.Test.YtocmmabpebbdaaaShelf
import Derived.Lib.BitFns
namespace Go.Proofs.Ytocmmabpebbdaaa
open Go.RowKit

/-- the least count of bits that a number has -/
def nbits (n : Nat) : Nat := if n = 0 then 0 else Nat.log2 n + 1
theorem lt_two_nbits (n : Nat) : n < 2 ^ nbits n := by
  unfold nbits
  split
  · omega
  · exact Nat.lt_log2_self
theorem nbits_le_iff (n k : Nat) : nbits n ≤ k ↔ n < 2 ^ k := by
  constructor
  · intro h
    exact Nat.lt_of_lt_of_le (lt_two_nbits n) (Nat.pow_le_pow_right (by omega) h)
  · intro h
    unfold nbits
    split
    · omega
    · rename_i hn
      have := (Nat.log2_lt hn).2 h
      omega
theorem nbits_unique {n k : Nat} (h1 : n < 2 ^ k) (h2 : k = 0 ∨ 2 ^ (k - 1) ≤ n) : nbits n = k := by
  have h3 := (nbits_le_iff n k).2 h1
  rcases h2 with rfl | h2
  · omega
  · rcases Nat.lt_or_ge (nbits n) k with h | h
    · have := (nbits_le_iff n (k - 1)).1 (by omega)
      omega
    · omega
theorem bitLenAux_eq : ∀ (f x : Nat), x < 2 ^ f → Go.Lib.bitLenAux f x = nbits x := by
  intro f
  induction f with
  | zero => intro x hx; have : x = 0 := by simpa using hx
            subst this; rfl
  | succ f ih =>
    intro x hx
    unfold Go.Lib.bitLenAux
    split
    · rename_i h; subst h; rfl
    · rename_i h
      rw [ih (x / 2) (by rw [Nat.pow_succ] at hx; omega)]
      refine (nbits_unique ?_ (.inr ?_)).symm
      · have := lt_two_nbits (x / 2)
        rw [Nat.add_comm, Nat.pow_succ]
        omega
      · rw [Nat.add_sub_cancel_left]
        by_cases h2 : x / 2 = 0
        · rw [h2]; unfold nbits; simp; omega
        · have h3 : ¬ nbits (x / 2) ≤ nbits (x / 2) - 1 := by unfold nbits; rw [if_neg h2]; omega
          rw [nbits_le_iff] at h3
          have e : 2 ^ nbits (x / 2) = 2 * 2 ^ (nbits (x / 2) - 1) := by
            rw [← Nat.pow_succ']; congr 1; unfold nbits; rw [if_neg h2]; omega
          omega
theorem bitLen_eq (x : Nat) (hx : x < W64) : Go.Lib.bitLen x = nbits x := bitLenAux_eq 64 x (by rw [W64_eq] at hx; exact hx)
/-- the bits of a number whose highest word is not 0 -/
theorem nbits_words {xs : List Nat} (h : Wf xs) (hne : xs ≠ []) (hl : xs.getD (xs.length - 1) 0 ≠ 0) : nbits (val xs) = 64 * (xs.length - 1) + nbits (xs.getD (xs.length - 1) 0) := by
  have hp : 0 < xs.length := List.length_pos_iff.2 hne
  have hW : W64 = 2 ^ 64 := by rw [W64_eq]
  have e := val_take_succ xs (xs.length - 1) (by omega)
  rw [show xs.length - 1 + 1 = xs.length by omega, List.take_length] at e
  have h1 := val_lt (h.take (xs.length - 1))
  rw [List.length_take, Nat.min_eq_left (by omega)] at h1
  generalize xs.getD (xs.length - 1) 0 = t at *
  generalize xs.length - 1 = k at *
  generalize val (xs.take k) = lo at *
  have hWk : W64 ^ k = 2 ^ (64 * k) := by rw [hW, ← Nat.pow_mul]
  rw [e]
  rw [hWk] at h1 ⊢
  have ht := lt_two_nbits t
  refine nbits_unique ?_ (.inr ?_)
  · rw [Nat.pow_add]
    have h2 : 2 ^ (64 * k) * (t + 1) ≤ 2 ^ (64 * k) * 2 ^ nbits t := Nat.mul_le_mul_left _ ht
    rw [Nat.mul_add] at h2
    omega
  · have hb : 1 ≤ nbits t := by unfold nbits; rw [if_neg hl]; omega
    have h3 : ¬ nbits t ≤ nbits t - 1 := by omega
    rw [nbits_le_iff] at h3
    rw [show 64 * k + nbits t - 1 = 64 * k + (nbits t - 1) by omega, Nat.pow_add]
    have h4 : 2 ^ (64 * k) * 2 ^ (nbits t - 1) ≤ 2 ^ (64 * k) * t := Nat.mul_le_mul_left _ (by omega)
    omega

theorem len64 (x : Nat) (hx : x < W64) (w : World) : Calls Try.prog 43 #[.int .u64 (x : Int)] w fun e w' => e = .returned (.int .i64 (nbits x : Nat)) ∧ w' = w := by
  have := Try.bits_Len64 (x : Int) w (by omega) (by rw [W64_eq] at hx; omega)
  rwa [Int.toNat_natCast, bitLen_eq x hx] at this

theorem Bits_any {S : Nat → Prop} {v : Value} {xs : List Nat} (w : World) (h : SlS S .u64 w v xs) (hx : Wf xs) (hl : xs.length ≤ 1000000) :
    Calls Try.prog 18 #[v] w fun e w' => e = .returned (.int .i64 (nbits (val xs) : Nat)) ∧ w' = w := by
  obtain ⟨a, cap, rfl, hlc, hcap, hnil, hr⟩ := h
  have hH : SlS S .u64 w (.slice a xs.length cap) xs := ⟨a, cap, rfl, hlc, hcap, hnil, hr⟩
  obtain ⟨m, hm⟩ : ∃ m, m = (norm xs).length := ⟨_, rfl⟩
  have hml : m ≤ 1000000 := by have := norm_length_le xs; omega
  have hi := inForm_exact w hH hm
  have hw := norm_wf hx
  rw [← norm_val xs]
  by_cases hn : norm xs = []
  · have hm0 : m = 0 := by rw [hm, hn]; rfl
    subst hm0
    rw [hn]
    have HI := Lib.hid hi
    clear hi hm hn hr hH hlc hcap hnil
    go_enter Try.func18, Try.ntmps18
    go_wp2_with (go_at_call 36; refine HI.out.mono ?_; rintro e w' ⟨rfl, rfl⟩)
    go_ret
    exact ⟨rfl, rfl⟩
  · have hlast := norm_last hn
    have hb := nbits_words hw hn hlast
    have hp : 0 < (norm xs).length := List.length_pos_iff.2 hn
    have hr2 := hr.norm
    rw [hb]
    rw [← hm] at hlast hp ⊢
    have htw := hw.getD (m - 1)
    have hcell : ∃ b off, a = some ⟨b, off, none⟩ ∧ w.cell? ⟨b, off + (m - 1), none⟩ = some (.int .u64 (((norm xs).getD (m - 1) 0 : Nat) : Int)) := by
      rcases hr2 with hr2 | ⟨b, off, e, _, hc⟩
      · exact absurd hr2 hn
      · exact ⟨b, off, e, hc (m - 1) (by omega)⟩
    obtain ⟨b, off, rfl, hcell⟩ := hcell
    generalize (norm xs).getD (m - 1) 0 = t at *
    obtain ⟨k, rfl⟩ : ∃ k, m = k + 1 := ⟨m - 1, by omega⟩
    rw [Nat.add_sub_cancel] at hcell ⊢
    have hl64 := len64 t htw w
    have hk64 : nbits t ≤ 64 := (nbits_le_iff t 64).2 (by rw [W64_eq] at htw; exact htw)
    generalize nbits t = nb at *
    have hm0 : ((k : Int) + 1 == 0) = false := by simp; omega
    have HI := Lib.hid hi
    have HL := Lib.hid hl64
    clear hi hm hn hr hH hlc hcap hnil hb hr2 hl64 hlast htw hp
    go_enter Try.func18, Try.ntmps18
    go_wp2_with (first | (go_at_call 36; refine HI.out.mono ?_; rintro e w' ⟨rfl, rfl⟩) | (go_at_call 43; refine HL.out.mono ?_; rintro e w' ⟨rfl, rfl⟩))
    go_ret
    refine ⟨?_, rfl⟩
    simp
end Go.Proofs.Ytocmmabpebbdaaa
