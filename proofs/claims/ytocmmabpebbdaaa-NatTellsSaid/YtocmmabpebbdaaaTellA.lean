/- What NatTells' own text has met: a list of slices, of whatever kind, that read numbers; each call in that form. -/
import Derived.Test.YtocmmabpebbdaaaNatN
import Derived.Test.YtocmmabpebbdaaaLawB
namespace Go.Proofs.Ytocmmabpebbdaaa
open Go.RowKit

structure EntK where
  k : IntKind
  v : Value
  xs : List Nat
structure StK (w W : World) (L : List EntK) : Prop where
  below : Below w.heap.size w W
  env : ∀ (i : Nat) (e : EntK), L[i]? = some e → SlS (fun _ => False) e.k W e.v e.xs

theorem StK.go {w W W' : World} {L : List EntK} (h : StK w W L) (k : Below W.heap.size W W') : StK w W' L :=
  ⟨Below.follow h.below k, fun i e he => (h.env i e he).below k⟩
theorem StK.add {w W : World} {L : List EntK} (h : StK w W L) {k : IntKind} {v : Value} {xs : List Nat} (h1 : SlS (fun _ => False) k W v xs) : StK w W (L ++ [⟨k, v, xs⟩]) := by
  refine ⟨h.below, fun i e he => ?_⟩
  rcases Nat.lt_or_ge i L.length with hi | hi
  · rw [List.getElem?_append_left hi] at he
    exact h.env i e he
  · rw [List.getElem?_append_right hi] at he
    have : i - L.length = 0 := by
      have := (List.getElem?_eq_some_iff.1 he).1
      simp at this
      omega
    rw [this] at he
    cases he
    exact h1
theorem StK.nil (w : World) : StK w w [] := ⟨Below.refl _ w, fun i e he => by simp at he⟩
theorem StK.drewN {w W : World} {L : List EntK} (h : StK w W L) (n : Nat) : StK w (W.drewN n) L := h.go (below_drewN (Below.refl _ _) n)
theorem StK.drop {w W : World} {L : List EntK} (h : StK w W L) : StK w W [] := ⟨h.below, fun i e he => by simp at he⟩

theorem StK.get {w W : World} {L : List EntK} (h : StK w W L) {i : Nat} {k : IntKind} {v : Value} {xs : List Nat} (h1 : L[i]? = some ⟨k, v, xs⟩) : SlS (fun _ => False) k W v xs := h.env _ _ h1

theorem W64_dig : W64 = Dig.W16 ^ 4 := by rw [W64_eq, Dig.W16_eq]
theorem dig_len {n k : Nat} (h : n < W64 ^ k) : (Dig.toW n).length ≤ 4 * k := by
  refine Dig.toW_length_le ?_
  rw [Nat.pow_mul, ← W64_dig]
  exact h
theorem nil_u64 (W : World) : SlS (fun _ => False) .u64 W (.slice none 0 0) [] := SlS.nil _ _ _

section
variable {w W : World} {L : List EntK} (hE : StK w W L)
include hE
theorem Digits_k {v : Value} {xs : List Nat} (i : Nat) (h1 : L[i]? = some ⟨.u64, v, xs⟩) (hx : Wf xs) (hl : xs.length ≤ 1000) :
    Calls Try.prog 10 #[v] W fun e w' => ∃ r, e = .returned r ∧ StK w w' (L ++ [⟨.u32, r, Dig.toW (val xs)⟩]) := by
  refine (Digits_any W (hE.get h1) hx hl).mono ?_
  rintro e w' ⟨r, he, hr, hb⟩
  exact ⟨r, he, (hE.go hb).add hr.plain⟩
theorem Long_k {v : Value} {xs : List Nat} (i : Nat) (h1 : L[i]? = some ⟨.u64, v, xs⟩) {b : Bool} (hb : decide (80 < xs.length) = b) :
    Calls Try.prog 11 #[v] W fun e w' => e = .returned (.bool b) ∧ w' = W := by
  subst hb
  exact Long_any W (hE.get h1)
theorem Add_k {v u : Value} {xs ys : List Nat} (i j : Nat) (h1 : L[i]? = some ⟨.u64, v, xs⟩) (h2 : L[j]? = some ⟨.u64, u, ys⟩) (hx : Wf xs) (hy : Wf ys) :
    Calls Try.prog 12 #[v, u] W fun e w' => ∃ r, e = .returned (.tuple #[r, .int .i64 (if 80 < xs.length ∨ 80 < ys.length then 11 else 0)]) ∧ StK w w' (L ++ [⟨.u64, r, if 80 < xs.length ∨ 80 < ys.length then [] else toW (val xs + val ys)⟩]) := by
  by_cases hl : 80 < xs.length ∨ 80 < ys.length
  · simp only [if_pos hl]
    refine (Add_long W (hE.get h1) (hE.get h2) hl).mono ?_
    rintro e w' ⟨he, hb⟩
    exact ⟨_, he, (hE.go hb).add (nil_u64 _)⟩
  · simp only [if_neg hl]
    refine (Add_any W (hE.get h1) (hE.get h2) hx hy (by omega) (by omega)).mono ?_
    rintro e w' ⟨r, he, hr, hb⟩
    exact ⟨r, he, (hE.go hb).add hr⟩
theorem Mul_k {v u : Value} {xs ys : List Nat} (i j : Nat) (h1 : L[i]? = some ⟨.u64, v, xs⟩) (h2 : L[j]? = some ⟨.u64, u, ys⟩) (hx : Wf xs) (hy : Wf ys) :
    Calls Try.prog 14 #[v, u] W fun e w' => ∃ r, e = .returned (.tuple #[r, .int .i64 (if 80 < xs.length ∨ 80 < ys.length then 11 else 0)]) ∧ StK w w' (L ++ [⟨.u64, r, if 80 < xs.length ∨ 80 < ys.length then [] else toW (val xs * val ys)⟩]) := by
  by_cases hl : 80 < xs.length ∨ 80 < ys.length
  · simp only [if_pos hl]
    refine (Mul_long W (hE.get h1) (hE.get h2) hl).mono ?_
    rintro e w' ⟨he, hb⟩
    exact ⟨_, he, (hE.go hb).add (nil_u64 _)⟩
  · simp only [if_neg hl]
    refine (Mul_any W (hE.get h1) (hE.get h2) hx hy (by omega) (by omega)).mono ?_
    rintro e w' ⟨r, he, hr, hb⟩
    exact ⟨r, he, (hE.go hb).add hr⟩
theorem Sub_k {v u : Value} {xs ys : List Nat} (i j : Nat) (h1 : L[i]? = some ⟨.u64, v, xs⟩) (h2 : L[j]? = some ⟨.u64, u, ys⟩) (hx : Wf xs) (hy : Wf ys) :
    Calls Try.prog 13 #[v, u] W fun e w' => ∃ r, e = .returned (.tuple #[r, .int .i64 (if 80 < xs.length ∨ 80 < ys.length then 11 else if val xs < val ys then 1 else 0)]) ∧ StK w w' (L ++ [⟨.u64, r, if 80 < xs.length ∨ 80 < ys.length then [] else if val xs < val ys then [] else toW (val xs - val ys)⟩]) := by
  by_cases hl : 80 < xs.length ∨ 80 < ys.length
  · simp only [if_pos hl]
    refine (Sub_long W (hE.get h1) (hE.get h2) hl).mono ?_
    rintro e w' ⟨he, hb⟩
    exact ⟨_, he, (hE.go hb).add (nil_u64 _)⟩
  · simp only [if_neg hl]
    by_cases hlt : val xs < val ys
    · simp only [if_pos hlt]
      refine (Sub_less W (hE.get h1) (hE.get h2) hx hy (by omega) (by omega) hlt).mono ?_
      rintro e w' ⟨he, hb⟩
      exact ⟨_, he, (hE.go hb).add (nil_u64 _)⟩
    · simp only [if_neg hlt]
      refine (Sub_any W (hE.get h1) (hE.get h2) hx hy (by omega) (by omega) (by omega)).mono ?_
      rintro e w' ⟨r, he, hr, hb⟩
      exact ⟨r, he, (hE.go hb).add hr⟩
theorem DivMod_k {v u : Value} {xs ys : List Nat} (i j : Nat) (h1 : L[i]? = some ⟨.u64, v, xs⟩) (h2 : L[j]? = some ⟨.u64, u, ys⟩) (hx : Wf xs) (hy : Wf ys) :
    Calls Try.prog 15 #[v, u] W fun e w' => ∃ q r, e = .returned (.tuple #[q, r, .int .i64 (if 80 < xs.length ∨ 80 < ys.length then 11 else if val ys = 0 then 20 else 0)]) ∧
      StK w w' (L ++ [⟨.u64, q, if 80 < xs.length ∨ 80 < ys.length then [] else if val ys = 0 then [] else toW (val xs / val ys)⟩] ++ [⟨.u64, r, if 80 < xs.length ∨ 80 < ys.length then [] else if val ys = 0 then [] else toW (val xs % val ys)⟩]) := by
  by_cases hl : 80 < xs.length ∨ 80 < ys.length
  · simp only [if_pos hl]
    refine (DivMod_long W (hE.get h1) (hE.get h2) hl).mono ?_
    rintro e w' ⟨he, hb⟩
    exact ⟨_, _, he, ((hE.go hb).add (nil_u64 _)).add (nil_u64 _)⟩
  · simp only [if_neg hl]
    by_cases hz : val ys = 0
    · simp only [if_pos hz]
      refine (DivMod_zero W (hE.get h1) (hE.get h2) (by omega) (by omega) hz).mono ?_
      rintro e w' ⟨he, hb⟩
      exact ⟨_, _, he, ((hE.go hb).add (nil_u64 _)).add (nil_u64 _)⟩
    · simp only [if_neg hz]
      refine (DivMod_any W (hE.get h1) (hE.get h2) hx hy (by omega) (by omega) (by omega)).mono ?_
      rintro e w' ⟨q, r, he, hq, hr, hb⟩
      exact ⟨q, r, he, ((hE.go hb).add hq).add hr⟩
theorem Cmp_k {v u : Value} {xs ys : List Nat} (i j : Nat) (h1 : L[i]? = some ⟨.u64, v, xs⟩) (h2 : L[j]? = some ⟨.u64, u, ys⟩) (hx : Wf xs) (hy : Wf ys) {c : Int} (hc : cmp3 (val xs) (val ys) = c) :
    Calls Try.prog 16 #[v, u] W fun e w' => e = .returned (.int .i64 c) ∧ StK w w' L := by
  subst hc
  refine (Cmp_any W (hE.get h1) (hE.get h2) hx hy).mono ?_
  rintro e w' ⟨he, n, hw⟩
  exact ⟨he, hw ▸ hE.drewN n⟩
theorem order_k {v u : Value} {a b : Nat} (i j : Nat) (h1 : L[i]? = some ⟨.u32, v, Dig.toW a⟩) (h2 : L[j]? = some ⟨.u32, u, Dig.toW b⟩) {c : Int} (hc : cmp3 a b = c) :
    Calls Try.prog 17 #[v, u] W fun e w' => e = .returned (.int .i64 c) ∧ StK w w' L := by
  subst hc
  have h := order_any W (hE.get h1) (hE.get h2) (Dig.toW_wf _) (Dig.toW_wf _) (by rw [← dnorm_same]; exact Dig.norm_toW a) (by rw [← dnorm_same]; exact Dig.norm_toW b)
  simp only [Dig.val_toW] at h
  refine h.mono ?_
  rintro e w' ⟨he, n, hw⟩
  exact ⟨he, hw ▸ hE.drewN n⟩
theorem Less_k {v u : Value} {a b : Nat} (i j : Nat) (h1 : L[i]? = some ⟨.u32, v, Dig.toW a⟩) (h2 : L[j]? = some ⟨.u32, u, Dig.toW b⟩) {c : Bool} (hc : decide (a < b) = c) :
    Calls Try.prog 26 #[v, u] W fun e w' => e = .returned (.bool c) ∧ StK w w' L := by
  subst hc
  have h := Less_any W (hE.get h1) (hE.get h2) (Dig.toW_wf _) (Dig.toW_wf _) (by rw [← dnorm_same]; exact Dig.norm_toW a) (by rw [← dnorm_same]; exact Dig.norm_toW b)
  simp only [Dig.val_toW] at h
  refine h.mono ?_
  rintro e w' ⟨he, n, hw⟩
  exact ⟨he, hw ▸ hE.drewN n⟩
theorem Bits_k {v : Value} {xs : List Nat} (i : Nat) (h1 : L[i]? = some ⟨.u64, v, xs⟩) (hx : Wf xs) (hl : xs.length ≤ 1000) {n : Nat} (hn : nbits (val xs) = n) :
    Calls Try.prog 18 #[v] W fun e w' => e = .returned (.int .i64 (n : Int)) ∧ w' = W := by
  subst hn
  exact Bits_any W (hE.get h1) hx (by omega)
theorem BitsRef_k {v : Value} {a : Nat} (i : Nat) (h1 : L[i]? = some ⟨.u32, v, Dig.toW a⟩) (hl : (Dig.toW a).length ≤ 10000) {n : Nat} (hn : nbits a = n) :
    Calls Try.prog 19 #[v] W fun e w' => e = .returned (.int .i64 (n : Int)) ∧ w' = W := by
  subst hn
  have h := Bits_ref W (hE.get h1) (Dig.toW_wf _) hl
  rw [Dig.val_toW] at h
  exact h
theorem Of_k {v : Value} {xs : List Nat} (i : Nat) (h1 : L[i]? = some ⟨.u64, v, xs⟩) (hx : Wf xs) (hl : xs.length ≤ 1000) :
    Calls Try.prog 21 #[v] W fun e w' => ∃ r, e = .returned r ∧ StK w w' (L ++ [⟨.u64, r, toW (val xs)⟩]) := by
  refine (Of_any W (hE.get h1) hx (by omega) rfl).mono ?_
  rintro e w' ⟨he, hb, hk⟩
  have h2 : (toW (val xs)).length ≤ xs.length := toW_length_le (val_lt hx)
  exact ⟨_, he, (hE.go hb).add (hk.slN rfl (by omega) (fun h => h))⟩
theorem Words_k {v : Value} {a : Nat} (i : Nat) (h1 : L[i]? = some ⟨.u32, v, Dig.toW a⟩) (hl : (Dig.toW a).length ≤ 10000) :
    Calls Try.prog 22 #[v] W fun e w' => ∃ r, e = .returned r ∧ StK w w' (L ++ [⟨.u64, r, toW a⟩]) := by
  have h := Words_any W (hE.get h1) (Dig.toW_wf _) hl
  rw [Dig.val_toW] at h
  refine h.mono ?_
  rintro e w' ⟨r, he, hr, hb⟩
  exact ⟨r, he, (hE.go hb).add hr.plain⟩
theorem Same_k {v u : Value} {xs ys : List Nat} (i j : Nat) (h1 : L[i]? = some ⟨.u64, v, xs⟩) (h2 : L[j]? = some ⟨.u64, u, ys⟩) (h : xs = ys) :
    Calls Try.prog 20 #[v, u] W fun e w' => e = .returned (.bool true) ∧ StK w w' L := by
  refine (same_any W (hE.get h1) (hE.get h2)).mono ?_
  rintro e w' ⟨he, n, hw⟩
  rw [decide_eq_true h] at he
  exact ⟨he, hw ▸ hE.drewN n⟩
theorem Plus_k {v u : Value} {a b : Nat} (i j : Nat) (h1 : L[i]? = some ⟨.u32, v, Dig.toW a⟩) (h2 : L[j]? = some ⟨.u32, u, Dig.toW b⟩) (ha : (Dig.toW a).length ≤ 1000) (hb : (Dig.toW b).length ≤ 1000) :
    Calls Try.prog 24 #[v, u] W fun e w' => ∃ r, e = .returned r ∧ StK w w' (L ++ [⟨.u32, r, Dig.toW (a + b)⟩]) := by
  have h := Plus_any W (hE.get h1) (hE.get h2) (Dig.toW_wf _) (Dig.toW_wf _) (by omega) (by omega)
  simp only [Dig.val_toW] at h
  refine h.mono ?_
  rintro e w' ⟨r, he, hr, hb⟩
  exact ⟨r, he, (hE.go hb).add hr.plain⟩
theorem Minus_k {v u : Value} {a b : Nat} (i j : Nat) (h1 : L[i]? = some ⟨.u32, v, Dig.toW a⟩) (h2 : L[j]? = some ⟨.u32, u, Dig.toW b⟩) (ha : (Dig.toW a).length ≤ 1000) (hle : b ≤ a) :
    Calls Try.prog 27 #[v, u] W fun e w' => ∃ r, e = .returned r ∧ StK w w' (L ++ [⟨.u32, r, Dig.toW (a - b)⟩]) := by
  have h := Minus_any W (hE.get h1) (hE.get h2) (Dig.toW_wf _) (Dig.toW_wf _) (by omega) (by simp only [Dig.val_toW]; exact hle)
  simp only [Dig.val_toW] at h
  refine h.mono ?_
  rintro e w' ⟨r, he, hr, hb⟩
  exact ⟨r, he, (hE.go hb).add hr.plain⟩
theorem Times_k {v u : Value} {a b : Nat} (i j : Nat) (h1 : L[i]? = some ⟨.u32, v, Dig.toW a⟩) (h2 : L[j]? = some ⟨.u32, u, Dig.toW b⟩) (ha : (Dig.toW a).length ≤ 1000) (hb : (Dig.toW b).length ≤ 1000) :
    Calls Try.prog 25 #[v, u] W fun e w' => ∃ r, e = .returned r ∧ StK w w' (L ++ [⟨.u32, r, Dig.toW (a * b)⟩]) := by
  have h := Times_any W (hE.get h1) (hE.get h2) (Dig.toW_wf _) (Dig.toW_wf _) ha hb
  simp only [Dig.val_toW] at h
  refine h.mono ?_
  rintro e w' ⟨r, he, hr, hb⟩
  exact ⟨r, he, (hE.go hb).add hr.plain⟩
theorem Over_k {v u : Value} {a b : Nat} (i j : Nat) (h1 : L[i]? = some ⟨.u32, v, Dig.toW a⟩) (h2 : L[j]? = some ⟨.u32, u, Dig.toW b⟩) (ha : (Dig.toW a).length ≤ 1000) (hb : (Dig.toW b).length ≤ 1000) (hp : 0 < b) :
    Calls Try.prog 28 #[v, u] W fun e w' => ∃ q r, e = .returned (.tuple #[q, r]) ∧ StK w w' (L ++ [⟨.u32, q, Dig.toW (a / b)⟩] ++ [⟨.u32, r, Dig.toW (a % b)⟩]) := by
  have h := Over_any W (hE.get h1) (hE.get h2) (Dig.toW_wf _) (Dig.toW_wf _) ha hb (by rw [← dnorm_same]; exact Dig.norm_toW b) (by simp only [Dig.val_toW]; exact hp)
  simp only [Dig.val_toW] at h
  refine h.mono ?_
  rintro e w' ⟨q, r, he, hq, hr, hb⟩
  exact ⟨q, r, he, ((hE.go hb).add hq).add hr⟩
theorem FromBytes_k {v : Value} {bs : List Nat} (i : Nat) (h1 : L[i]? = some ⟨.u8, v, bs⟩) (hx : ∀ x ∈ bs, x < 256) :
    Calls Try.prog 29 #[v] W fun e w' => ∃ r, e = .returned (.tuple #[r, .int .i64 (if 640 < bs.length then 11 else 0)]) ∧ StK w w' (L ++ [⟨.u64, r, if 640 < bs.length then [] else toW (fromB bs)⟩]) := by
  by_cases hl : 640 < bs.length
  · simp only [if_pos hl]
    refine (FromBytes_long W (hE.get h1) hl).mono ?_
    rintro e w' ⟨he, hb⟩
    exact ⟨_, he, (hE.go hb).add (nil_u64 _)⟩
  · simp only [if_neg hl]
    refine (FromBytes_any W (hE.get h1) hx (by omega)).mono ?_
    rintro e w' ⟨r, he, hr, hb⟩
    exact ⟨r, he, (hE.go hb).add hr⟩
theorem FromBytesRef_k {v : Value} {bs : List Nat} (i : Nat) (h1 : L[i]? = some ⟨.u8, v, bs⟩) (hx : ∀ x ∈ bs, x < 256) (hl : bs.length ≤ 1000) :
    Calls Try.prog 30 #[v] W fun e w' => ∃ r, e = .returned r ∧ StK w w' (L ++ [⟨.u32, r, Dig.toW (fromB bs)⟩]) := by
  refine (FromBytes_ref W (hE.get h1) hx hl).mono ?_
  rintro e w' ⟨r, he, hr, hb⟩
  exact ⟨r, he, (hE.go hb).add hr.plain⟩
theorem wakes_k : Calls Try.prog 9 #[] W fun e w' => e = .returned (.bool true) ∧ StK w w' L := by
  refine (wakes_any W W [] (St.nil W)).mono ?_
  rintro e w' ⟨he, hs⟩
  exact ⟨he, hE.go hs.below⟩
end
/-- the bit of any whole number's place -/
theorem Bit_k {w W : World} {L : List EntK} (hE : StK w W L) {v : Value} {xs : List Nat} (i : Nat) (h1 : L[i]? = some ⟨.u64, v, xs⟩) (hx : Wf xs) (z : Int) (hz : z < 9223372036854775808) :
    Calls Try.prog 23 #[v, .int .i64 z] W fun e w' => e = .returned (.int .u64 ((if z < 0 then 0 else val xs / 2 ^ z.toNat % 2 : Nat) : Int)) ∧ w' = W := by
  by_cases h : z < 0
  · rw [if_pos h]
    exact Bit_neg z h W
  · rw [if_neg h]
    obtain ⟨n, rfl⟩ := Int.eq_ofNat_of_zero_le (Int.not_lt.1 h)
    exact Bit_any n (by omega) W (hE.get h1) hx
end Go.Proofs.Ytocmmabpebbdaaa
