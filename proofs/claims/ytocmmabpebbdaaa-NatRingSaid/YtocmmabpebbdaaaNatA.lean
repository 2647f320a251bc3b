/- The small functions of package nat that only read: inForm, word, tooLong; ref.Same. -/
import Derived.Test.YtocmmabpebbdaaaNatRd
import Derived.BigQuiet
import Derived.Deep.QuietTactic
namespace Go.Proofs.Ytocmmabpebbdaaa
open Go.RowKit

/-- the call hands back a slice that reads xs -/
def RetSl (S : Nat → Prop) (k : IntKind) (w : World) (xs : List Nat) (e : Ending) : Prop := ∃ u, e = .returned u ∧ SlS S k w u xs

theorem norm_zero_at {xs : List Nat} {k : Nat} (hk : k < xs.length) (h : ∀ j, k + 1 ≤ j → j < xs.length → xs.getD j 0 = 0) (h0 : (((xs[k]?.getD 0 : Nat) : Int) == 0) = true) :
    ∀ j, k ≤ j → j < xs.length → xs.getD j 0 = 0 := by
  intro j hj hl
  by_cases e : j = k
  · subst e
    have := eq_of_beq h0
    simp only [List.getD_eq_getElem?_getD]
    omega
  · exact h j (by omega) hl

theorem taken_length {xs : List Nat} {n m : Nat} (hn : n ≤ xs.length) (hz : ∀ j, n ≤ j → j < xs.length → xs.getD j 0 = 0) (hl : n = 0 ∨ xs.getD (n - 1) 0 ≠ 0) (hm : m = (norm xs).length) : n = m := by
  rw [hm, norm_of_scan xs n hn hz hl, List.length_take]; omega

set_option maxHeartbeats 400000 in
/-- the number in form, in the memory of the list -/
theorem inForm_exact {S : Nat → Prop} {a : Option Addr} {len cap m : Nat} {xs : List Nat} (w : World) (h : SlS S .u64 w (.slice a len cap) xs) (hm : m = (norm xs).length) :
    Calls Try.prog 36 #[.slice a len cap] w fun e w' => e = .returned (.slice a m cap) ∧ w' = w := by
  obtain ⟨a', cap', e, hlc, hcap, hnil, hr⟩ := h
  cases e
  have HM := Lib.hid hm
  clear hm
  by_cases hx : xs = []
  · subst hx
    have hm : m = 0 := HM.out
    rw [hm]
    clear hm
    go_enter Try.func36, Try.ntmps36
    go_wp2
    go_loop [3] (fun i => i = .int .i64 0) (fun i => 0)
    case atStart => rfl
    case round =>
      obtain rfl := hrel
      go_wp2
      go_ret
      exact ⟨rfl, rfl⟩
  · rcases hr with hr | ⟨b, off, rfl, hS, hc⟩
    · exact absurd hr hx
    clear hx hnil
    go_enter Try.func36, Try.ntmps36
    go_wp2
    go_loop [3] (fun i => ∃ k : Nat, k ≤ xs.length ∧ i = .int .i64 k ∧ Hid (∀ j, k ≤ j → j < xs.length → xs.getD j 0 = 0)) (fun i => (intOf i).toNat)
    case atStart => exact ⟨xs.length, Nat.le_refl _, rfl, fun j _ _ => by omega⟩
    case round =>
      obtain ⟨k, hk, rfl, hz⟩ := hrel
      cases k with
      | zero =>
        clear hc
        go_wp2
        go_ret
        rw [← taken_length (Nat.zero_le _) hz.out (.inl rfl) HM.out]
        exact ⟨rfl, rfl⟩
      | succ k =>
        have hcell := hc k (by omega)
        clear hc
        go_wp2
        · have h0 : (((xs[k]?.getD 0 : Nat) : Int) == 0) = true := by assumption
          go_round
          case rel => exact ⟨k, by omega, by go_num, norm_zero_at (by omega) hz.out h0⟩
          case measure => simp [intOf]
        · have h0 : (((xs[k]?.getD 0 : Nat) : Int) == 0) = false := by assumption
          go_ret
          rw [← taken_length hk hz.out (.inr (by simp only [Nat.add_sub_cancel, List.getD_eq_getElem?_getD]; intro e; rw [e] at h0; simp at h0)) HM.out]
          exact ⟨rfl, rfl⟩
theorem inForm_any {S : Nat → Prop} {v : Value} {xs : List Nat} (w : World) (h : SlS S .u64 w v xs) :
    Calls Try.prog 36 #[v] w fun e w' => RetSl S .u64 w (norm xs) e ∧ w = w' := by
  obtain ⟨a, cap, rfl, hlc, hcap, hnil, hr⟩ := h
  refine (inForm_exact w ⟨a, cap, rfl, hlc, hcap, hnil, hr⟩ rfl).mono fun e w' ⟨he, hw⟩ => ⟨⟨_, he, a, cap, rfl, Nat.le_trans (norm_length_le xs) hlc, hcap, hnil, hr.norm⟩, hw.symm⟩

/-- a word of a number: 0 behind its end -/
theorem word_any {S : Nat → Prop} {v : Value} {xs : List Nat} (i : Nat) (w : World) (h : SlS S .u64 w v xs) :
    Calls Try.prog 45 #[v, .int .i64 i] w fun e w' => e = .returned (.int .u64 ((xs.getD i 0 : Nat) : Int)) ∧ w' = w := by
  obtain ⟨a, cap, rfl, hlc, hcap, hnil, hr⟩ := h
  by_cases hi : i < xs.length
  · rcases hr with hr | ⟨b, off, rfl, hS, hc⟩
    · subst hr; simp at hi
    have hcell := hc i hi
    clear hc
    generalize xs.getD i 0 = x at *
    go_enter Try.func45, Try.ntmps45
    go_wp2
    go_ret
    exact ⟨rfl, rfl⟩
  · have hi' : xs.length ≤ i := by omega
    have e : xs.getD i 0 = 0 := by simp [List.getD, hi']
    rw [e]
    clear e
    go_enter Try.func45, Try.ntmps45
    go_wp2
    go_ret
    exact ⟨rfl, rfl⟩

theorem eq_of_getD {xs ys : List Nat} (hl : xs.length = ys.length) (h : ∀ j, j < xs.length → xs.getD j 0 = ys.getD j 0) : xs = ys := by
  apply List.ext_getElem hl
  intro j h1 h2
  have := h j h1
  simpa [List.getD, h1, h2] using this

theorem nat_of_bne {x y : Nat} (h : ((x : Int) != (y : Int)) = false) : x = y := by
  have : (x : Int) = y := by simpa using h
  omega

theorem same_len {xs ys : List Nat} {n : Nat} (hx : xs.length = n) (hy : ys.length = n) {b off b' off' cap cap' : Nat} (w : World) (hn : n ≤ 9223372036854775807)
    (hc : ∀ j, j < xs.length → w.cell? ⟨b, off + j, none⟩ = some (.int .u64 ((xs.getD j 0 : Nat) : Int)))
    (hc' : ∀ j, j < ys.length → w.cell? ⟨b', off' + j, none⟩ = some (.int .u64 ((ys.getD j 0 : Nat) : Int))) :
    Calls Try.prog 20 #[.slice (some ⟨b, off, none⟩) n cap, .slice (some ⟨b', off', none⟩) n cap'] w fun e w' => e = .returned (.bool (decide (xs = ys))) ∧ ∃ n, w' = w.drewN n := by
  have HX := Lib.hid hx
  have HY := Lib.hid hy
  have HC := Lib.hid hc
  have HC' := Lib.hid hc'
  clear hx hy hc hc'
  go_enter Try.func20, Try.ntmps20
  go_wp2
  go_loopw [5] (fun i wr => ∃ k q : Nat, k ≤ n ∧ i = .int .i64 k ∧ wr = w.drewN q ∧ Hid (∀ j, j < k → xs.getD j 0 = ys.getD j 0)) (fun i _ => n - (intOf i).toNat)
  case atStart => exact ⟨0, 0, Nat.zero_le _, rfl, rfl, fun j hj => by omega⟩
  case round =>
    obtain ⟨k, q, hk, rfl, rfl, he⟩ := hrel
    by_cases hlt : k < n
    · have c1 := HC.out k (by rw [HX.out]; exact hlt)
      have c2 := HC'.out k (by rw [HY.out]; exact hlt)
      obtain ⟨x, hx⟩ : ∃ x, xs.getD k 0 = x := ⟨_, rfl⟩
      obtain ⟨y, hy⟩ : ∃ y, ys.getD k 0 = y := ⟨_, rfl⟩
      rw [hx] at c1
      rw [hy] at c2
      have Hx := Lib.hid hx
      have Hy := Lib.hid hy
      clear hx hy
      have i1 : 0 ≤ (k : Int) := by omega
      have i2 : (k : Int) < (n : Int) := by omega
      go_wp2_with fail
      go_quiet (fail)
      go_wp2
      · have hne : ((x : Int) != (y : Int)) = true := by assumption
        have hd : decide (xs = ys) = false := decide_eq_false (fun e => by subst e; rw [← Hx.out, ← Hy.out] at hne; simp at hne)
        go_ret
        exact ⟨by rw [hd]; rfl, q + nq, World.drewN_drewN _ _ _⟩
      · have heq : ((x : Int) != (y : Int)) = false := by assumption
        have hxy : x = y := nat_of_bne heq
        go_roundw
        case rel =>
          refine ⟨k + 1, q + nq, by omega, by go_num, rfl, fun j hj => ?_⟩
          by_cases e : j = k
          · rw [e, Hx.out, Hy.out, hxy]
          · exact he.out j (by omega)
        case measure => simp [intOf]; omega
    · have hk' : n ≤ k := by omega
      go_wp2
      go_ret
      have hd : decide (xs = ys) = true := decide_eq_true (eq_of_getD (by rw [HX.out, HY.out]) (fun j hj => he.out j (by have := HX.out; omega)))
      exact ⟨by rw [hd]; rfl, q, rfl⟩

theorem same_nil (a a' : Option Addr) (cap cap' : Nat) (w : World) :
    Calls Try.prog 20 #[.slice a 0 cap, .slice a' 0 cap'] w fun e w' => e = .returned (.bool true) ∧ ∃ n, w' = w.drewN n := by
  go_enter Try.func20, Try.ntmps20
  go_wp2
  go_loopw [5] (fun i wr => i = .int .i64 0 ∧ wr = w) (fun i _ => 0)
  case atStart => exact ⟨rfl, rfl⟩
  case round =>
    obtain ⟨rfl, rfl⟩ := hrel
    go_wp2
    go_ret
    exact ⟨rfl, 0, rfl⟩

/-- are two lists of words the same? -/
theorem same_any {v u : Value} {xs ys : List Nat} (w : World) (h : Sl w v xs) (h' : Sl w u ys) :
    Calls Try.prog 20 #[v, u] w fun e w' => e = .returned (.bool (decide (xs = ys))) ∧ ∃ n, w' = w.drewN n := by
  obtain ⟨a, cap, rfl, hlc, hcap, hnil, hr⟩ := h
  obtain ⟨a', cap', rfl, hlc', hcap', hnil', hr'⟩ := h'
  by_cases hl : xs.length = ys.length
  · rcases hr with rfl | ⟨b, off, rfl, hS, hc⟩
    · have hy : ys = [] := List.eq_nil_of_length_eq_zero (by simpa using hl.symm)
      subst hy
      exact same_nil _ _ _ _ w
    rcases hr' with rfl | ⟨b', off', rfl, hS', hc'⟩
    · have hy : xs = [] := List.eq_nil_of_length_eq_zero (by simpa using hl)
      subst hy
      exact same_nil _ _ _ _ w
    rw [← hl]
    exact same_len rfl hl.symm w (by omega) hc hc'
  · have hd : decide (xs = ys) = false := decide_eq_false (fun e => hl (by rw [e]))
    rw [hd]
    clear hd
    go_enter Try.func20, Try.ntmps20
    go_wp2
    go_ret
    exact ⟨rfl, 0, rfl⟩

/-- is one of two lists longer than 80 words? -/
theorem tooLong2_any {v u : Value} {xs ys : List Nat} {S T : Nat → Prop} (w : World) (h : SlS S .u64 w v xs) (h' : SlS T .u64 w u ys) {b off cap : Nat}
    (c0 : w.cell? ⟨b, off, none⟩ = some v) (c1 : w.cell? ⟨b, off + 1, none⟩ = some u) :
    Calls Try.prog 34 #[.slice (some ⟨b, off, none⟩) 2 cap] w fun e w' => e = .returned (.bool (decide (80 < xs.length ∨ 80 < ys.length))) ∧ w = w' := by
  obtain ⟨a, cap, rfl, hlc, hcap, hnil, hr⟩ := h
  obtain ⟨a', cap', rfl, hlc', hcap', hnil', hr'⟩ := h'
  clear hr hr' hnil hnil'
  go_enter Try.func34, Try.ntmps34
  go_wp2
  refine wp_loop_rounds 3 ?_
  rw [rounds_succ]
  go_wp2
  · have hl : 80 < (xs.length : Int) := by assumption
    have hd : decide (80 < xs.length ∨ 80 < ys.length) = true := decide_eq_true (.inl (by omega))
    go_ret
    exact ⟨by rw [hd]; rfl, rfl⟩
  · rw [rounds_succ]
    go_wp2
    · have hl : 80 < (ys.length : Int) := by assumption
      have hd : decide (80 < xs.length ∨ 80 < ys.length) = true := decide_eq_true (.inr (by omega))
      go_ret
      exact ⟨by rw [hd]; rfl, rfl⟩
    · rw [rounds_succ]
      go_wp2
      have hl : (ys.length : Int) ≤ 80 := by assumption
      have hl' : (xs.length : Int) ≤ 80 := by assumption
      have hd : decide (80 < xs.length ∨ 80 < ys.length) = false := decide_eq_false (by omega)
      go_ret
      exact ⟨by rw [hd]; rfl, rfl⟩
end Go.Proofs.Ytocmmabpebbdaaa
