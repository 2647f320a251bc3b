/- DivMod by 0. -/
import Derived.Test.YtocmmabpebbdaaaNatI
namespace Go.Proofs.Ytocmmabpebbdaaa
open Go.RowKit Go.Shelf
attribute [local go_sem] Oper.semAt_some

set_option maxRecDepth 100000 in
set_option maxHeartbeats 400000 in
theorem DivMod_zero {v u : Value} {xs ys : List Nat} (w : World) (h : Sl w v xs) (h' : Sl w u ys) (hl : xs.length ≤ 80) (hl' : ys.length ≤ 80) (hz : val ys = 0) :
    Calls Try.prog 15 #[v, u] w fun e w' => e = .returned (.tuple #[.slice none 0 0, .slice none 0 0, .int .i64 20]) ∧ Below w.heap.size w w' := by
  obtain ⟨a, cap, rfl, hlc, hcap, hnil, hr⟩ := h
  obtain ⟨b, bcap, rfl, hlc', hcap', hnil', hr'⟩ := h'
  have hH : Sl w (.slice a xs.length cap) xs := ⟨a, cap, rfl, hlc, hcap, hnil, hr⟩
  have hH' : Sl w (.slice b ys.length bcap) ys := ⟨b, bcap, rfl, hlc', hcap', hnil', hr'⟩
  clear hr hr' hlc hlc'
  have hd : decide (80 < xs.length ∨ 80 < ys.length) = false := decide_eq_false (by omega)
  have hb0 : Below w.heap.size w ((w.alloc (.cells #[.slice b ys.length bcap] 22)).alloc (.cells #[.slice a xs.length cap, .slice b ys.length bcap] 22)) := ((Below.refl _ w).alloc (Nat.le_refl _) _).alloc (by simp) _
  have ht := fun (c : Nat) => tooLong2_any ((w.alloc (.cells #[.slice b ys.length bcap] 22)).alloc (.cells #[.slice a xs.length cap, .slice b ys.length bcap] 22)) (hH.below hb0) (hH'.below hb0) (cap := c) (pair_cells _ _ _ 22).1 (pair_cells _ _ _ 22).2
  rw [hd] at ht
  simp only [World.size_alloc] at ht
  clear hd
  obtain ⟨la, hla⟩ : ∃ la, la = (norm xs).length := ⟨_, rfl⟩
  have hlb : 0 = (norm ys).length := by rw [norm_eq_nil.2 hz]; rfl
  have hi1 := fun (W : World) (hW : W.heap = ((w.alloc (.cells #[.slice b ys.length bcap] 22)).alloc (.cells #[.slice a xs.length cap, .slice b ys.length bcap] 22)).heap) => inForm_exact W ((hH.below hb0).heap hW) hla
  have hi2 := fun (W : World) (hW : W.heap = ((w.alloc (.cells #[.slice b ys.length bcap] 22)).alloc (.cells #[.slice a xs.length cap, .slice b ys.length bcap] 22)).heap) => inForm_exact W ((hH'.below hb0).heap hW) hlb
  have HT := Lib.hid ht
  have HI1 := Lib.hid hi1
  have HI2 := Lib.hid hi2
  clear ht hi1 hi2 hH hH' hla hlb hz
  go_enter Try.func15, Try.ntmps15
  go_wp2_with (go_at_call 34; refine (HT.out _).mono ?_; rintro e w' ⟨rfl, rfl⟩)
  clear HT
  have c0 : ((w.alloc (.cells #[.slice b ys.length bcap] 22)).alloc (.cells #[.slice a xs.length cap, .slice b ys.length bcap] 22)).cell? ⟨w.heap.size, 0, none⟩ = some (.slice b ys.length bcap) := cellOld (cellNew rfl rfl)
  have f0 : ((w.alloc (.cells #[.slice b ys.length bcap] 22)).alloc (.cells #[.slice a xs.length cap, .slice b ys.length bcap] 22)).frozen? ⟨w.heap.size, 0, none⟩ = false := freeOld (freeNew rfl) (by simp)
  have z0 : w.heap.size < ((w.alloc (.cells #[.slice b ys.length bcap] 22)).alloc (.cells #[.slice a xs.length cap, .slice b ys.length bcap] 22)).heap.size := by simp; omega
  generalize (w.alloc (.cells #[.slice b ys.length bcap] 22)).alloc (.cells #[.slice a xs.length cap, .slice b ys.length bcap] 22) = W1 at *
  go_still_tail 5, (by kernel_rfl)
  still_call (HI1.out _ rfl)
  repeat still_step
  still_call (HI2.out _ rfl)
  repeat still_step
  refine wpStill_nil ?_
  change wpList _ _ _ _ _ W1.drew
  have c2 : (W1.setCell ⟨w.heap.size, 0, none⟩ (.slice b 0 bcap)).cell? ⟨w.heap.size, 0, none⟩ = some (.slice b 0 bcap) := World.cell?_setCell_same' _ _ _ (by rw [c0]; rfl)
  go_wp2_with fail
  go_ret3
  exact ⟨rfl, (hb0.setCell (p := ⟨w.heap.size, 0, none⟩) (Nat.le_refl _) _).drew⟩
end Go.Proofs.Ytocmmabpebbdaaa
