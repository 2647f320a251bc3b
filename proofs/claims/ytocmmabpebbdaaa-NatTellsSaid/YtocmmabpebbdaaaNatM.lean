/- The answers with an error: too many words. -/
import Derived.Test.YtocmmabpebbdaaaNatL
import Derived.Test.YtocmmabpebbdaaaNatK
namespace Go.Proofs.Ytocmmabpebbdaaa
open Go.RowKit

set_option maxHeartbeats 1000000 in
theorem Add_long {v u : Value} {xs ys : List Nat} (w : World) (h : Sl w v xs) (h' : Sl w u ys) (hl : 80 < xs.length ∨ 80 < ys.length) :
    Calls Try.prog 12 #[v, u] w fun e w' => RetErr w 11 e w' := by
  have hd : decide (80 < xs.length ∨ 80 < ys.length) = true := decide_eq_true hl
  obtain ⟨a, n, cap, rfl⟩ := h.shape
  obtain ⟨b, m, bcap, rfl⟩ := h'.shape
  have hb0 : Below w.heap.size w (w.alloc (.cells #[.slice a n cap, .slice b m bcap] 22)) := (Below.refl _ w).alloc (Nat.le_refl _) _
  have ht := fun (c : Nat) => tooLong2_any (w.alloc (.cells #[.slice a n cap, .slice b m bcap] 22)) (h.below hb0) (h'.below hb0) (cap := c) (pair_cells w _ _ 22).1 (pair_cells w _ _ 22).2
  rw [hd] at ht
  have HT := Lib.hid ht
  clear ht hd h h' hl
  go_enter Try.func12, Try.ntmps12
  go_wp2_with (go_at_call 34; refine (HT.out _).mono ?_; rintro e w' ⟨rfl, hw⟩; obtain rfl := hw)
  go_ret2
  exact ⟨rfl, hb0⟩
set_option maxHeartbeats 1000000 in
theorem Sub_long {v u : Value} {xs ys : List Nat} (w : World) (h : Sl w v xs) (h' : Sl w u ys) (hl : 80 < xs.length ∨ 80 < ys.length) :
    Calls Try.prog 13 #[v, u] w fun e w' => RetErr w 11 e w' := by
  have hd : decide (80 < xs.length ∨ 80 < ys.length) = true := decide_eq_true hl
  obtain ⟨a, n, cap, rfl⟩ := h.shape
  obtain ⟨b, m, bcap, rfl⟩ := h'.shape
  have hb0 : Below w.heap.size w (w.alloc (.cells #[.slice a n cap, .slice b m bcap] 22)) := (Below.refl _ w).alloc (Nat.le_refl _) _
  have ht := fun (c : Nat) => tooLong2_any (w.alloc (.cells #[.slice a n cap, .slice b m bcap] 22)) (h.below hb0) (h'.below hb0) (cap := c) (pair_cells w _ _ 22).1 (pair_cells w _ _ 22).2
  rw [hd] at ht
  have HT := Lib.hid ht
  clear ht hd h h' hl
  go_enter Try.func13, Try.ntmps13
  go_wp2_with (go_at_call 34; refine (HT.out _).mono ?_; rintro e w' ⟨rfl, hw⟩; obtain rfl := hw)
  go_ret2
  exact ⟨rfl, hb0⟩
set_option maxHeartbeats 1000000 in
theorem Mul_long {v u : Value} {xs ys : List Nat} (w : World) (h : Sl w v xs) (h' : Sl w u ys) (hl : 80 < xs.length ∨ 80 < ys.length) :
    Calls Try.prog 14 #[v, u] w fun e w' => RetErr w 11 e w' := by
  have hd : decide (80 < xs.length ∨ 80 < ys.length) = true := decide_eq_true hl
  obtain ⟨a, n, cap, rfl⟩ := h.shape
  obtain ⟨b, m, bcap, rfl⟩ := h'.shape
  have hb0 : Below w.heap.size w (w.alloc (.cells #[.slice a n cap, .slice b m bcap] 22)) := (Below.refl _ w).alloc (Nat.le_refl _) _
  have ht := fun (c : Nat) => tooLong2_any (w.alloc (.cells #[.slice a n cap, .slice b m bcap] 22)) (h.below hb0) (h'.below hb0) (cap := c) (pair_cells w _ _ 22).1 (pair_cells w _ _ 22).2
  rw [hd] at ht
  have HT := Lib.hid ht
  clear ht hd h h' hl
  go_enter Try.func14, Try.ntmps14
  go_wp2_with (go_at_call 34; refine (HT.out _).mono ?_; rintro e w' ⟨rfl, hw⟩; obtain rfl := hw)
  go_ret2
  exact ⟨rfl, hb0⟩
set_option maxHeartbeats 1000000 in
theorem DivMod_long {v u : Value} {xs ys : List Nat} (w : World) (h : Sl w v xs) (h' : Sl w u ys) (hl : 80 < xs.length ∨ 80 < ys.length) :
    Calls Try.prog 15 #[v, u] w fun e w' => e = .returned (.tuple #[.slice none 0 0, .slice none 0 0, .int .i64 11]) ∧ Below w.heap.size w w' := by
  have hd : decide (80 < xs.length ∨ 80 < ys.length) = true := decide_eq_true hl
  obtain ⟨a, n, cap, rfl⟩ := h.shape
  obtain ⟨b, m, bcap, rfl⟩ := h'.shape
  have hb0 : Below w.heap.size w ((w.alloc (.cells #[.slice b m bcap] 22)).alloc (.cells #[.slice a n cap, .slice b m bcap] 22)) := ((Below.refl _ w).alloc (Nat.le_refl _) _).alloc (by simp) _
  have ht := fun (c : Nat) => tooLong2_any ((w.alloc (.cells #[.slice b m bcap] 22)).alloc (.cells #[.slice a n cap, .slice b m bcap] 22)) (h.below hb0) (h'.below hb0) (cap := c) (pair_cells _ _ _ 22).1 (pair_cells _ _ _ 22).2
  rw [hd] at ht
  simp only [World.size_alloc] at ht
  have HT := Lib.hid ht
  clear ht hd h h' hl
  go_enter Try.func15, Try.ntmps15
  go_wp2_with (go_at_call 34; refine (HT.out _).mono ?_; rintro e w' ⟨rfl, hw⟩; obtain rfl := hw)
  go_ret3
  exact ⟨rfl, hb0⟩
set_option maxHeartbeats 1000000 in
theorem FromBytes_long {v : Value} {bs : List Nat} (w : World) (h : SlB w v bs) (hl : 640 < bs.length) :
    Calls Try.prog 29 #[v] w fun e w' => RetErr w 11 e w' := by
  obtain ⟨a, cap, rfl, _⟩ := h
  have hl1 : (640 : Int) < bs.length := by omega
  clear hl
  go_enter Try.func29, Try.ntmps29
  go_wp2
  go_ret2
  exact ⟨rfl, Below.refl _ _⟩
theorem Bit_neg {v : Value} (i : Int) (hi : i < 0) (w : World) :
    Calls Try.prog 23 #[v, .int .i64 i] w fun e w' => e = .returned (.int .u64 0) ∧ w' = w := by
  go_enter Try.func23, Try.ntmps23
  go_wp2
  go_ret
  exact ⟨rfl, rfl⟩
set_option maxHeartbeats 1000000 in
theorem Long_any {v : Value} {xs : List Nat} (w : World) (h : Sl w v xs) :
    Calls Try.prog 11 #[v] w fun e w' => e = .returned (.bool (decide (80 < xs.length))) ∧ w' = w := by
  obtain ⟨a, cap, rfl, _⟩ := h
  go_enter Try.func11, Try.ntmps11
  go_wp2
  go_ret
  refine ⟨congrArg (fun n => Ending.returned (.bool n)) ?_, rfl⟩
  by_cases hl : 80 < xs.length
  · rw [decide_eq_true (by omega), decide_eq_true hl]
  · rw [decide_eq_false (by omega), decide_eq_false hl]
end Go.Proofs.Ytocmmabpebbdaaa
