/- What a statement's own text knows of the numbers it has met: a list of slices that read numbers, in the world as it is. -/
import Derived.Test.YtocmmabpebbdaaaNatI
import Derived.Test.YtocmmabpebbdaaaNatJ
namespace Go.Proofs.Ytocmmabpebbdaaa
open Go.RowKit

structure Ent where
  v : Value
  xs : List Nat
  k : Nat
structure EntOk (W : World) (e : Ent) : Prop where
  sl : Sl W e.v e.xs
  wf : Wf e.xs
  len : e.xs.length ≤ e.k
structure St (w W : World) (L : List Ent) : Prop where
  below : Below w.heap.size w W
  env : ∀ (i : Nat) (e : Ent), L[i]? = some e → EntOk W e

theorem Below.follow {w W W' : World} (h : Below w.heap.size w W) (k : Below W.heap.size W W') : Below w.heap.size w W' :=
  ⟨k.os.trans h.os, k.tape.trans h.tape, k.output.trans h.output, Nat.le_trans h.size k.size, fun i hi => (k.block i (Nat.lt_of_lt_of_le hi h.size)).trans (h.block i hi)⟩
theorem St.go {w W W' : World} {L : List Ent} (h : St w W L) (k : Below W.heap.size W W') : St w W' L :=
  ⟨Below.follow h.below k, fun i e he => let o := h.env i e he; ⟨o.sl.below k, o.wf, o.len⟩⟩
theorem St.add {w W : World} {L : List Ent} (h : St w W L) {v : Value} {xs : List Nat} {k : Nat} (h1 : Sl W v xs) (h2 : Wf xs) (h3 : xs.length ≤ k) : St w W (L ++ [⟨v, xs, k⟩]) := by
  refine ⟨h.below, fun i e he => ?_⟩
  rcases Nat.lt_or_ge i L.length with hi | hi
  · rw [List.getElem?_append_left hi] at he
    exact h.env i e he
  · rw [List.getElem?_append_right hi] at he
    have : i - L.length = 0 := by
      have := (List.getElem?_eq_some_iff.1 he).1
      simp at this
      omega
    rw [this] at he
    cases he
    exact ⟨h1, h2, h3⟩
theorem St.nil (w : World) : St w w [] := ⟨Below.refl _ w, fun i e he => by simp at he⟩
theorem St.drewN {w W : World} {L : List Ent} (h : St w W L) (n : Nat) : St w (W.drewN n) L := h.go (below_drewN (Below.refl _ _) n)

theorem toW_len_add {x y j k : Nat} (hx : x < W64 ^ j) (hy : y < W64 ^ k) : (toW (x + y)).length ≤ max j k + 1 := by
  refine toW_length_le ?_
  have h1 : W64 ^ j ≤ W64 ^ max j k := Nat.pow_le_pow_right W64_pos (Nat.le_max_left _ _)
  have h2 : W64 ^ k ≤ W64 ^ max j k := Nat.pow_le_pow_right W64_pos (Nat.le_max_right _ _)
  have h3 : W64 ^ max j k * 2 ≤ W64 ^ max j k * W64 := Nat.mul_le_mul_left _ (by rw [W64_eq]; omega)
  rw [Nat.pow_succ]
  omega
theorem toW_len_mul {x y j k : Nat} (hx : x < W64 ^ j) (hy : y < W64 ^ k) : (toW (x * y)).length ≤ j + k := by
  refine toW_length_le ?_
  rw [Nat.pow_add]
  exact Nat.mul_lt_mul'' hx hy
theorem EntOk.lt {W : World} {e : Ent} (h : EntOk W e) : val e.xs < W64 ^ e.k :=
  Nat.lt_of_lt_of_le (val_lt h.wf) (Nat.pow_le_pow_right W64_pos h.len)

section
variable {w W : World} {L : List Ent} (hE : St w W L)
include hE
theorem Add_st {v u : Value} {xs ys : List Nat} {j k : Nat} (i1 i2 : Nat) (h1 : L[i1]? = some ⟨v, xs, j⟩) (h2 : L[i2]? = some ⟨u, ys, k⟩) (hj : j ≤ 80) (hk : k ≤ 80) :
    Calls Try.prog 12 #[v, u] W fun e w' => ∃ r, e = .returned (.tuple #[r, .int .i64 0]) ∧ St w w' (L ++ [⟨r, toW (val xs + val ys), max j k + 1⟩]) := by
  have o1 := hE.env _ _ h1
  have o2 := hE.env _ _ h2
  refine (Add_any W o1.sl o2.sl o1.wf o2.wf (Nat.le_trans o1.len hj) (Nat.le_trans o2.len hk)).mono ?_
  rintro e w' ⟨r, he, hr, hb⟩
  exact ⟨r, he, (hE.go hb).add hr (toW_wf _) (toW_len_add o1.lt o2.lt)⟩
theorem Mul_st {v u : Value} {xs ys : List Nat} {j k : Nat} (i1 i2 : Nat) (h1 : L[i1]? = some ⟨v, xs, j⟩) (h2 : L[i2]? = some ⟨u, ys, k⟩) (hj : j ≤ 80) (hk : k ≤ 80) :
    Calls Try.prog 14 #[v, u] W fun e w' => ∃ r, e = .returned (.tuple #[r, .int .i64 0]) ∧ St w w' (L ++ [⟨r, toW (val xs * val ys), j + k⟩]) := by
  have o1 := hE.env _ _ h1
  have o2 := hE.env _ _ h2
  refine (Mul_any W o1.sl o2.sl o1.wf o2.wf (Nat.le_trans o1.len hj) (Nat.le_trans o2.len hk)).mono ?_
  rintro e w' ⟨r, he, hr, hb⟩
  exact ⟨r, he, (hE.go hb).add hr (toW_wf _) (toW_len_mul o1.lt o2.lt)⟩
theorem Sub_st {v u : Value} {xs ys : List Nat} {j k : Nat} (i1 i2 : Nat) (h1 : L[i1]? = some ⟨v, xs, j⟩) (h2 : L[i2]? = some ⟨u, ys, k⟩) (hj : j ≤ 80) (hk : k ≤ 80) (hle : val ys ≤ val xs) :
    Calls Try.prog 13 #[v, u] W fun e w' => ∃ r, e = .returned (.tuple #[r, .int .i64 0]) ∧ St w w' (L ++ [⟨r, toW (val xs - val ys), j⟩]) := by
  have o1 := hE.env _ _ h1
  have o2 := hE.env _ _ h2
  refine (Sub_any W o1.sl o2.sl o1.wf o2.wf (Nat.le_trans o1.len hj) (Nat.le_trans o2.len hk) hle).mono ?_
  rintro e w' ⟨r, he, hr, hb⟩
  exact ⟨r, he, (hE.go hb).add hr (toW_wf _) (toW_length_le (Nat.lt_of_le_of_lt (Nat.sub_le _ _) o1.lt))⟩
theorem SubErr_st {v u : Value} {xs ys : List Nat} {j k : Nat} (i1 i2 : Nat) (h1 : L[i1]? = some ⟨v, xs, j⟩) (h2 : L[i2]? = some ⟨u, ys, k⟩) (hj : j ≤ 80) (hk : k ≤ 80) (hlt : val xs < val ys) :
    Calls Try.prog 13 #[v, u] W fun e w' => e = .returned (.tuple #[.slice none 0 0, .int .i64 1]) ∧ St w w' L := by
  have o1 := hE.env _ _ h1
  have o2 := hE.env _ _ h2
  refine (Sub_less W o1.sl o2.sl o1.wf o2.wf (Nat.le_trans o1.len hj) (Nat.le_trans o2.len hk) hlt).mono ?_
  rintro e w' ⟨he, hb⟩
  exact ⟨he, hE.go hb⟩
theorem DivMod_st {v u : Value} {xs ys : List Nat} {j k : Nat} (i1 i2 : Nat) (h1 : L[i1]? = some ⟨v, xs, j⟩) (h2 : L[i2]? = some ⟨u, ys, k⟩) (hj : j ≤ 80) (hk : k ≤ 80) (hpos : 0 < val ys) :
    Calls Try.prog 15 #[v, u] W fun e w' => ∃ q r, e = .returned (.tuple #[q, r, .int .i64 0]) ∧ St w w' (L ++ [⟨q, toW (val xs / val ys), j⟩] ++ [⟨r, toW (val xs % val ys), j⟩]) := by
  have o1 := hE.env _ _ h1
  have o2 := hE.env _ _ h2
  refine (DivMod_any W o1.sl o2.sl o1.wf o2.wf (Nat.le_trans o1.len hj) (Nat.le_trans o2.len hk) hpos).mono ?_
  rintro e w' ⟨q, r, he, hq, hr, hb⟩
  exact ⟨q, r, he, ((hE.go hb).add hq (toW_wf _) (toW_length_le (Nat.lt_of_le_of_lt (Nat.div_le_self _ _) o1.lt))).add hr (toW_wf _) (toW_length_le (Nat.lt_of_le_of_lt (Nat.mod_le _ _) o1.lt))⟩
theorem Of_st {v : Value} {xs : List Nat} {j : Nat} (i1 : Nat) (h1 : L[i1]? = some ⟨v, xs, j⟩) (hj : j ≤ 1000) :
    Calls Try.prog 21 #[v] W fun e w' => ∃ r, e = .returned r ∧ St w w' (L ++ [⟨r, toW (val xs), j⟩]) := by
  have o1 := hE.env _ _ h1
  refine (Of_any W o1.sl o1.wf (Nat.le_trans o1.len (Nat.le_trans hj (by omega))) rfl).mono ?_
  rintro e w' ⟨he, hb, hk⟩
  have hl : (toW (val xs)).length ≤ j := toW_length_le o1.lt
  exact ⟨_, he, (hE.go hb).add (hk.slN rfl (Nat.le_trans hl (Nat.le_trans hj (by omega))) (fun h => h)) (toW_wf _) hl⟩
theorem Same_st {v u : Value} {xs ys : List Nat} {j k : Nat} (i1 i2 : Nat) (h1 : L[i1]? = some ⟨v, xs, j⟩) (h2 : L[i2]? = some ⟨u, ys, k⟩) (h : xs = ys) :
    Calls Try.prog 20 #[v, u] W fun e w' => e = .returned (.bool true) ∧ St w w' L := by
  have o1 := hE.env _ _ h1
  have o2 := hE.env _ _ h2
  refine (same_any W o1.sl o2.sl).mono ?_
  rintro e w' ⟨he, n, hw⟩
  rw [decide_eq_true h] at he
  exact ⟨he, hw ▸ hE.drewN n⟩
theorem Cmp_st {v u : Value} {xs ys : List Nat} {j k : Nat} (i1 i2 : Nat) (h1 : L[i1]? = some ⟨v, xs, j⟩) (h2 : L[i2]? = some ⟨u, ys, k⟩) :
    Calls Try.prog 16 #[v, u] W fun e w' => e = .returned (.int .i64 (cmp3 (val xs) (val ys))) ∧ St w w' L := by
  have o1 := hE.env _ _ h1
  have o2 := hE.env _ _ h2
  refine (Cmp_any W o1.sl o2.sl o1.wf o2.wf).mono ?_
  rintro e w' ⟨he, n, hw⟩
  exact ⟨he, hw ▸ hE.drewN n⟩
theorem Bits_st {v : Value} {xs : List Nat} {j : Nat} (i1 : Nat) (h1 : L[i1]? = some ⟨v, xs, j⟩) (hj : j ≤ 1000) :
    Calls Try.prog 18 #[v] W fun e w' => e = .returned (.int .i64 (nbits (val xs) : Nat)) ∧ St w w' L := by
  have o1 := hE.env _ _ h1
  refine (Bits_any W o1.sl o1.wf (Nat.le_trans o1.len (Nat.le_trans hj (by omega)))).mono ?_
  rintro e w' ⟨he, hw⟩
  exact ⟨he, hw ▸ hE⟩
/-- a new slice of one word, or of two -/
theorem St.new1 (x : Nat) (hx : x < W64) {n : Nat} (hn : n = W.heap.size) : St w (W.alloc (.cells #[.int .u64 (x : Int)] 41)) (L ++ [⟨.slice (some ⟨n, 0, none⟩) 1 1, [x], 1⟩]) := by
  subst hn
  exact (hE.go ((Below.refl _ W).alloc (Nat.le_refl _) _)).add ((Blk.new .u64 41 W [x]).sl 1 (Nat.le_refl _) (by omega) (fun h => h)) (fun y hy => by simp at hy; subst hy; exact hx) (Nat.le_refl _)
theorem St.new2 (x y : Nat) (hx : x < W64) (hy : y < W64) {n : Nat} (hn : n = W.heap.size) : St w (W.alloc (.cells #[.int .u64 (x : Int), .int .u64 (y : Int)] 41)) (L ++ [⟨.slice (some ⟨n, 0, none⟩) 2 2, [x, y], 2⟩]) := by
  subst hn
  exact (hE.go ((Below.refl _ W).alloc (Nat.le_refl _) _)).add ((Blk.new .u64 41 W [x, y]).sl 2 (Nat.le_refl _) (by omega) (fun h => h)) (fun z hz => by simp at hz; rcases hz with rfl | rfl <;> assumption) (Nat.le_refl _)
end
end Go.Proofs.Ytocmmabpebbdaaa
