/- The document's own answer: digits: at, trim, bit, Long. -/
import Derived.Test.YtocmmabpebbdaaaNatL
import Derived.Test.YtocmmabpebbdaaaLawE
import Derived.Test.YtocmmabpebbdaaaDig
namespace Go.Proofs.Ytocmmabpebbdaaa
open Go.RowKit

abbrev SlD (w : World) (v : Value) (xs : List Nat) : Prop := SlS (fun _ => False) .u32 w v xs

theorem at_any {S : Nat → Prop} {v : Value} {xs : List Nat} (i : Nat) (w : World) (h : SlS S .u32 w v xs) :
    Calls Try.prog 46 #[v, .int .i64 i] w fun e w' => e = .returned (.int .u32 ((xs.getD i 0 : Nat) : Int)) ∧ w' = w := by
  obtain ⟨a, cap, rfl, hlc, hcap, hnil, hr⟩ := h
  by_cases hi : i < xs.length
  · rcases hr with hr | ⟨b, off, rfl, hS, hc⟩
    · subst hr; simp at hi
    have hcell := hc i hi
    clear hc
    generalize xs.getD i 0 = x at *
    go_enter Try.func46, Try.ntmps46
    go_wp2
    go_ret
    exact ⟨rfl, rfl⟩
  · have hi' : xs.length ≤ i := by omega
    have e : xs.getD i 0 = 0 := by simp [List.getD, hi']
    rw [e]
    clear e
    go_enter Try.func46, Try.ntmps46
    go_wp2
    go_ret
    exact ⟨rfl, rfl⟩

set_option maxHeartbeats 400000 in
/-- a digit list without the noughts at its end, in the memory of the list -/
theorem trim_exact {S : Nat → Prop} {a : Option Addr} {len cap m : Nat} {xs : List Nat} (w : World) (h : SlS S .u32 w (.slice a len cap) xs) (hm : m = (norm xs).length) :
    Calls Try.prog 33 #[.slice a len cap] w fun e w' => e = .returned (.slice a m cap) ∧ w' = w := by
  obtain ⟨a', cap', e, hlc, hcap, hnil, hr⟩ := h
  cases e
  have HM := Lib.hid hm
  clear hm
  by_cases hx : xs = []
  · subst hx
    have hm : m = 0 := HM.out
    rw [hm]
    clear hm
    go_enter Try.func33, Try.ntmps33
    go_wp2
    go_loop [0] (fun v => v = .slice a 0 cap) (fun v => 0)
    case atStart => rfl
    case round =>
      obtain rfl := hrel
      go_wp2
      go_ret
      exact ⟨rfl, rfl⟩
  · rcases hr with hr | ⟨b, off, rfl, hS, hc⟩
    · exact absurd hr hx
    clear hx hnil
    go_enter Try.func33, Try.ntmps33
    go_wp2
    go_loop [0] (fun v => ∃ k : Nat, k ≤ xs.length ∧ v = .slice (some ⟨b, off, none⟩) k cap ∧ Hid (∀ j, k ≤ j → j < xs.length → xs.getD j 0 = 0)) (fun v => match v with | .slice _ n _ => n | _ => 0)
    case atStart => exact ⟨xs.length, Nat.le_refl _, rfl, fun j _ _ => by omega⟩
    case round =>
      obtain ⟨k, hk, rfl, hz⟩ := hrel
      cases k with
      | zero =>
        clear hc
        go_wp2
        go_ret
        rw [← taken_length (Nat.zero_le _) hz.out (.inl rfl) HM.out]
        exact ⟨rfl, rfl⟩
      | succ k =>
        have hcell := hc k (by omega)
        clear hc
        go_wp2
        · have h0 : (((xs[k]?.getD 0 : Nat) : Int) == 0) = true := by assumption
          exact ⟨⟨k, by omega, rfl, norm_zero_at (by omega) hz.out h0⟩, Nat.lt_succ_self k⟩
        · have h0 : (((xs[k]?.getD 0 : Nat) : Int) == 0) = false := by assumption
          go_ret
          rw [← taken_length hk hz.out (.inr (by simp only [Nat.add_sub_cancel, List.getD_eq_getElem?_getD]; intro e; rw [e] at h0; simp at h0)) HM.out]
          exact ⟨rfl, rfl⟩
theorem trim_any {S : Nat → Prop} {v : Value} {xs : List Nat} (w : World) (h : SlS S .u32 w v xs) :
    Calls Try.prog 33 #[v] w fun e w' => (∃ r, e = .returned r ∧ SlS S .u32 w r (norm xs)) ∧ w' = w := by
  obtain ⟨a, cap, rfl, hlc, hcap, hnil, hr⟩ := h
  refine (trim_exact w ⟨a, cap, rfl, hlc, hcap, hnil, hr⟩ rfl).mono fun e w' ⟨he, hw⟩ => ⟨⟨_, he, a, cap, rfl, Nat.le_trans (norm_length_le xs) hlc, hcap, hnil, hr.norm⟩, hw⟩

theorem wrap_u32_nat (n : Nat) : IntKind.u32.wrap (n : Int) = ((n % 4294967296 : Nat) : Int) := by
  rw [IntKind.wrap_u32]; omega
theorem ofInt_nat32 (n : Nat) : BitVec.ofInt 32 (n : Int) = BitVec.ofNat 32 n := by
  simp
theorem bits_or_u32 (x y : Nat) (hx : x < 4294967296) (hy : y < 4294967296) : bits .or .u32 (x : Int) (y : Int) = ((x ||| y : Nat) : Int) := by
  have h : x ||| y < 2 ^ 32 := Nat.or_lt_two_pow (by omega) (by omega)
  show IntKind.u32.wrap (((BitVec.ofInt 32 (x : Int)) ||| (BitVec.ofInt 32 (y : Int))).toNat : Int) = _
  rw [ofInt_nat32, ofInt_nat32, BitVec.toNat_or, BitVec.toNat_ofNat, BitVec.toNat_ofNat, Nat.mod_eq_of_lt (by omega), Nat.mod_eq_of_lt (by omega), wrap_u32_nat, Nat.mod_eq_of_lt (by omega)]
theorem bits_and_u32 (x y : Nat) (hx : x < 4294967296) (hy : y < 4294967296) : bits .and .u32 (x : Int) (y : Int) = ((x &&& y : Nat) : Int) := by
  have h : x &&& y < 2 ^ 32 := Nat.and_lt_two_pow _ (by omega)
  show IntKind.u32.wrap (((BitVec.ofInt 32 (x : Int)) &&& (BitVec.ofInt 32 (y : Int))).toNat : Int) = _
  rw [ofInt_nat32, ofInt_nat32, BitVec.toNat_and, BitVec.toNat_ofNat, BitVec.toNat_ofNat, Nat.mod_eq_of_lt (by omega), Nat.mod_eq_of_lt (by omega), wrap_u32_nat, Nat.mod_eq_of_lt (by omega)]
theorem and_one_u32 (x : Nat) (hx : x < 4294967296) : bits .and .u32 (x : Int) 1 = ((x % 2 : Nat) : Int) := by
  have := bits_and_u32 x 1 hx (by omega)
  rw [Nat.and_one_is_mod] at this
  exact this

/-- the bit of the worth 2^i, of digits -/
theorem Dig.bit_word (xs : List Nat) (h : Dig.Wf xs) (i : Nat) : xs.getD (i / 16) 0 / 2 ^ (i % 16) % 2 = Dig.val xs / 2 ^ i % 2 := by
  have hW : Dig.W16 = 2 ^ 16 := by rw [Dig.W16_eq]
  have key : ∀ k, Dig.val xs / Dig.W16 ^ k % Dig.W16 = xs.getD k 0 := by
    intro k
    by_cases hk : k < xs.length
    · rw [Dig.val_take_drop xs k (by omega)]
      have h1 := Dig.val_lt (h.take k)
      rw [List.length_take, Nat.min_eq_left (by omega)] at h1
      rw [Nat.add_mul_div_left _ _ (Nat.pow_pos Dig.W16_pos), Nat.div_eq_of_lt h1, Nat.zero_add, List.drop_eq_getElem_cons hk, Dig.val_cons, Nat.add_mul_mod_self_left]
      have h2 := h.getD k
      rw [List.getD_eq_getElem?_getD, List.getElem?_eq_getElem hk] at h2 ⊢
      exact Nat.mod_eq_of_lt h2
    · rw [List.getD_eq_getElem?_getD, List.getElem?_eq_none (by omega)]
      have h1 := Dig.val_lt h
      have h2 : Dig.W16 ^ xs.length ≤ Dig.W16 ^ k := Nat.pow_le_pow_right Dig.W16_pos (by omega)
      rw [Nat.div_eq_of_lt (by omega)]
      rfl
  rw [← key (i / 16), hW, ← Nat.pow_mul]
  have e : 2 ^ i = 2 ^ (16 * (i / 16)) * 2 ^ (i % 16) := by rw [← Nat.pow_add]; congr 1; omega
  rw [e, ← Nat.div_div_eq_div_mul]
  generalize Dig.val xs / 2 ^ (16 * (i / 16)) = m
  have hs : i % 16 < 16 := Nat.mod_lt _ (by omega)
  have e2 : (2 : Nat) ^ 16 = 2 ^ (i % 16) * 2 ^ (16 - i % 16) := by rw [← Nat.pow_add]; congr 1; omega
  rw [e2, Nat.mod_mul_right_div_self]
  have e3 : (2 : Nat) ^ (16 - i % 16) = 2 * 2 ^ (15 - i % 16) := by rw [← Nat.pow_succ']; congr 1; omega
  rw [e3, Nat.mod_mul_right_mod]
theorem at_int {S : Nat → Prop} {v : Value} {xs : List Nat} (i : Int) (h0 : 0 ≤ i) (w : World) (h : SlS S .u32 w v xs) :
    Calls Try.prog 46 #[v, .int .i64 i] w fun e w' => e = .returned (.int .u32 ((xs.getD i.toNat 0 : Nat) : Int)) ∧ w' = w := by
  obtain ⟨n, rfl⟩ := Int.eq_ofNat_of_zero_le h0
  rw [Int.toNat_natCast]
  exact at_any n w h

/-- a bit of a digit list -/
theorem bit_ref {S : Nat → Prop} {v : Value} {xs : List Nat} (i : Nat) (hi : i < 9223372036854775808) (w : World) (h : SlS S .u32 w v xs) (hx : Dig.Wf xs) :
    Calls Try.prog 44 #[v, .int .i64 i] w fun e w' => e = .returned (.int .u32 ((Dig.val xs / 2 ^ i % 2 : Nat) : Int)) ∧ w' = w := by
  have hw := at_int ((i : Int) / 16) (by omega) w h
  rw [← Dig.bit_word xs hx i]
  have hlt := hx.getD ((i : Int) / 16).toNat
  have e1 : ((i : Int) / 16).toNat = i / 16 := by omega
  rw [e1] at hw hlt
  generalize xs.getD (i / 16) 0 = x at *
  obtain ⟨a, n, cap, rfl⟩ := h.shape
  have h0 : 0 ≤ (i : Int) := by omega
  have hx32 : x < 4294967296 := by rw [Dig.W16_eq] at hlt; omega
  go_enter Try.func44, Try.ntmps44
  go_wp2_with (go_at_call 46; refine hw.mono ?_; rintro e w' ⟨rfl, rfl⟩)
  go_ret
  refine ⟨congrArg (fun n => Ending.returned (.int .u32 n)) ?_, rfl⟩
  rw [show (x : Int) / 2 ^ (i % 16) = ((x / 2 ^ (i % 16) : Nat) : Int) by simp, and_one_u32 _ (Nat.lt_of_le_of_lt (Nat.div_le_self _ _) hx32)]

/-- one more element behind a slice that the call itself grows -/
theorem append1 {t e : TypeId} {k : IntKind} {bytes : Nat} (ht : Try.prog.underlying t = some (.slice e)) (hi : (Try.prog.info? e).map (fun i => (i.zero, i.size, i.bytes)) = some (some (.int k 0), 1, bytes)) (hb8 : bytes ≤ 8)
    {W : World} {base n : Nat} {v : Value} {xs : List Nat} (x : Nat) (hown : W.ownsRow base e 1 v n (wvs k xs)) (hbase : base ≤ W.heap.size) (hn : n ≤ 1000000) :
    ∃ v' w', (Builtin.append_ #[t, t] t #[v, .slice (some ⟨W.heap.size, 0, none⟩) 1 1]).run Try.prog (W.alloc (.cells #[.int k (x : Int)] e)) = .ok v' w' ∧ w'.ownsRow base e 1 v' (n + 1) (wvs k (xs ++ [x])) ∧ Below base W w' := by
  obtain ⟨i, hi, hz0, hz1, hz2⟩ := info_parts hi
  have hown2 := hown.alloc (.cells #[.int k (x : Int)] e)
  obtain ⟨v', w', hrun, r1, r2, _⟩ := run_append_own (P := Try.prog) (W.alloc (.cells #[.int k (x : Int)] e)) base t t e i (.int k 0) 1 bytes ht hi hz0 hz1 hz2 rfl (by decide)
    v n (wvs k xs) hown2 ⟨W.heap.size, 0, none⟩ 1 1 [.int k (x : Int)] rfl
    (fun j u hj => by
      match j, hj with
      | 0, hj =>
        simp at hj
        subst hj
        rw [Addr.add_lit]
        exact cellNew rfl rfl)
    (fun u hu => by simp at hu; subst hu; rfl)
    (by unfold maxLen; omega) (by have : (n + 1) * bytes ≤ 1000001 * 8 := Nat.mul_le_mul (by omega) hb8; omega) (by simp; omega)
  refine ⟨v', w', hrun, ?_, ?_⟩
  · have : wvs k (xs ++ [x]) = wvs k xs ++ [.int k (x : Int)] := by simp [wvs]
    rw [this]; exact r1
  · exact ((Below.refl base W).alloc hbase _).grown r2 (by simp; omega) (fun j e => (hown2.lt j e).1)
theorem sl_of_row' {e : TypeId} {k : IntKind} {W : World} {base : Nat} {v : Value} {n : Nat} {xs : List Nat} (h : W.ownsRow base e 1 v n (wvs k xs)) : SlS (fun b => b < base) k W v xs := by
  have hl : xs.length = n := by have := h.1; simpa [wvs] using this
  obtain ⟨_, ⟨rfl, h0⟩ | ⟨g, cap, cur, rfl, hb, hc, hn, hm, hs, ht⟩⟩ := id h
  · subst h0
    have : xs = [] := List.eq_nil_of_length_eq_zero hl
    subst this
    exact SlS.nil _ _ _
  · refine ⟨some ⟨g, 0, none⟩, cap, by rw [hl], by rw [hl]; exact hn, by unfold maxLen at hm; omega, by simp, .inr ⟨g, 0, rfl, fun h => by omega, fun j hj => ?_⟩⟩
    have := h.cells rfl j (.int k ((xs.getD j 0 : Nat) : Int)) (by simp [wvs, List.getD, hj])
    rw [Addr.add_lit, Nat.zero_add] at this
    rw [Nat.zero_add]
    exact this
theorem info_u32 : (Try.prog.info? 56).map (fun i => (i.zero, i.size, i.bytes)) = some (some (.int .u32 0), 1, 4) := by kernel_rfl
end Go.Proofs.Ytocmmabpebbdaaa
