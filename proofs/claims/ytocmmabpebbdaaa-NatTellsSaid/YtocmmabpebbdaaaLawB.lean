/- wakes. -/
import Derived.Test.YtocmmabpebbdaaaLawA
namespace Go.Proofs.Ytocmmabpebbdaaa
open Go.RowKit

theorem toW_of {n : Nat} {xs : List Nat} (h : n = val xs) (hw : Wf xs) (hn : norm xs = xs) : toW n = xs := by rw [h, toW_val hw, hn]

set_option maxRecDepth 100000 in
set_option maxHeartbeats 2000000 in
theorem wakes_any (w0 w : World) (L : List Ent) (hL : St w0 w L) : Calls Try.prog 9 #[] w fun e w' => e = .returned (.bool true) ∧ St w0 w' L := by
  suffices hs : Calls Try.prog 9 #[] w fun e w' => e = .returned (.bool true) ∧ Below w.heap.size w w' from hs.mono fun e w' ⟨he, hb⟩ => ⟨he, hL.go hb⟩
  clear hL L w0
  have hE := St.nil w
  have hE1 := (hE.new1 18446744073709551615 (by decide) (n := w.heap.size) rfl).new1 1 (by decide) (n := w.heap.size + 1) (by simp)
  clear hE
  simp only [List.nil_append, List.cons_append] at hE1
  go_enter Try.func9, Try.ntmps9
  go_wp2_with fail
  go_at_call 12
  refine (Add_st hE1 0 1 rfl rfl (by decide) (by decide)).mono ?_
  rintro e W ⟨a, rfl, hE⟩
  clear hE1
  have hE1 := (hE.new1 18446744073709551615 (by decide) (n := W.heap.size) rfl).new1 18446744073709551615 (by decide) (n := W.heap.size + 1) (by simp)
  clear hE
  simp only [List.nil_append, List.cons_append] at hE1
  go_wp2_with fail
  go_at_call 14
  refine (Mul_st hE1 3 4 rfl rfl (by decide) (by decide)).mono ?_
  rintro e W ⟨b, rfl, hE⟩
  clear hE1
  have hE1 := (hE.new1 3 (by decide) (n := W.heap.size) rfl).new1 5 (by decide) (n := W.heap.size + 1) (by simp)
  clear hE
  simp only [List.nil_append, List.cons_append] at hE1
  go_wp2_with fail
  go_at_call 13
  refine (SubErr_st hE1 6 7 rfl rfl (by decide) (by decide) (by decide)).mono ?_
  rintro e W ⟨rfl, hE⟩
  clear hE1
  have hE1 := (hE.new1 17 (by decide) (n := W.heap.size) rfl).new1 5 (by decide) (n := W.heap.size + 1) (by simp)
  clear hE
  simp only [List.nil_append, List.cons_append] at hE1
  go_wp2_with fail
  go_at_call 15
  refine (DivMod_st hE1 8 9 rfl rfl (by decide) (by decide) (by decide)).mono ?_
  rintro e W ⟨q, r, rfl, hE⟩
  clear hE1
  have hE1 := hE.new2 5 0 (by decide) (by decide) (n := W.heap.size) rfl
  clear hE
  simp only [List.nil_append, List.cons_append] at hE1
  go_wp2_with fail
  go_at_call 21
  refine (Of_st hE1 12 rfl (by decide)).mono ?_
  rintro e W ⟨o, rfl, hE⟩
  clear hE1
  have hE1 := hE.new1 5 (by decide) (n := W.heap.size) rfl
  clear hE
  simp only [List.nil_append, List.cons_append] at hE1
  go_wp2_with fail
  go_at_call 20
  refine (Same_st hE1 13 14 rfl rfl (toW_of (by decide) (by unfold Wf; decide) (by decide))).mono ?_
  rintro e W ⟨rfl, hE⟩
  clear hE1
  have hE1 := hE.new2 0 1 (by decide) (by decide) (n := W.heap.size) rfl
  clear hE
  simp only [List.nil_append, List.cons_append] at hE1
  go_wp2_with fail
  go_at_call 20
  refine (Same_st hE1 2 15 rfl rfl (toW_of (by decide) (by unfold Wf; decide) (by decide))).mono ?_
  rintro e W ⟨rfl, hE⟩
  clear hE1
  have hE1 := hE.new2 1 18446744073709551614 (by decide) (by decide) (n := W.heap.size) rfl
  clear hE
  simp only [List.nil_append, List.cons_append] at hE1
  go_wp2_with fail
  go_at_call 20
  refine (Same_st hE1 5 16 rfl rfl (toW_of (by decide) (by unfold Wf; decide) (by decide))).mono ?_
  rintro e W ⟨rfl, hE⟩
  clear hE1
  have hE1 := hE.new1 3 (by decide) (n := W.heap.size) rfl
  clear hE
  simp only [List.nil_append, List.cons_append] at hE1
  go_wp2_with fail
  go_at_call 20
  refine (Same_st hE1 10 17 rfl rfl (toW_of (by decide) (by unfold Wf; decide) (by decide))).mono ?_
  rintro e W ⟨rfl, hE⟩
  clear hE1
  have hE1 := hE.new1 2 (by decide) (n := W.heap.size) rfl
  clear hE
  simp only [List.nil_append, List.cons_append] at hE1
  go_wp2_with fail
  go_at_call 20
  refine (Same_st hE1 11 18 rfl rfl (toW_of (by decide) (by unfold Wf; decide) (by decide))).mono ?_
  rintro e W ⟨rfl, hE⟩
  clear hE1
  have hE1 := hE.new1 258 (by decide) (n := W.heap.size) rfl
  clear hE
  simp only [List.nil_append, List.cons_append] at hE1
  have h9 : nbits (val [258]) = 9 := by decide
  go_wp2_with fail
  go_at_call 18
  refine (Bits_st hE1 19 rfl (by decide)).mono ?_
  rw [h9]
  rintro e W ⟨rfl, hE⟩
  clear hE1
  go_wp2_with fail
  go_ret
  exact ⟨rfl, hE.below⟩
end Go.Proofs.Ytocmmabpebbdaaa
