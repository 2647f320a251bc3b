/- NatRing. -/
import Derived.Test.YtocmmabpebbdaaaLawB
namespace Go.Proofs.Ytocmmabpebbdaaa
open Go.RowKit

theorem St.three {w : World} {a b c : Value} {xs ys zs : List Nat} {k : Nat} (h1 : Sl w a xs) (h2 : Sl w b ys) (h3 : Sl w c zs) (x1 : Wf xs) (x2 : Wf ys) (x3 : Wf zs) (l1 : xs.length ≤ k) (l2 : ys.length ≤ k) (l3 : zs.length ≤ k) :
    St w w [⟨a, xs, k⟩, ⟨b, ys, k⟩, ⟨c, zs, k⟩] := (((St.nil w).add h1 x1 l1).add h2 x2 l2).add h3 x3 l3

set_option maxRecDepth 100000 in
set_option maxHeartbeats 4000000 in
theorem NatRing_any (w : World) {v1 v2 v3 : Value} {xs ys zs : List Nat} (h1 : Sl w v1 xs) (h2 : Sl w v2 ys) (h3 : Sl w v3 zs) (x1 : Wf xs) (x2 : Wf ys) (x3 : Wf zs) :
    Calls Try.prog 4 #[v1, v2, v3] w fun e w' => e = .returned (.bool true) ∧ Below w.heap.size w w' := by
  have hwk := fun W => wakes_any w W [] 
  obtain ⟨a1, c1, rfl⟩ : ∃ a c, v1 = .slice a xs.length c := let ⟨a, c, e, _⟩ := h1; ⟨a, c, e⟩
  obtain ⟨a2, c2, rfl⟩ : ∃ a c, v2 = .slice a ys.length c := let ⟨a, c, e, _⟩ := h2; ⟨a, c, e⟩
  obtain ⟨a3, c3, rfl⟩ : ∃ a c, v3 = .slice a zs.length c := let ⟨a, c, e, _⟩ := h3; ⟨a, c, e⟩
  by_cases hg : 20 < xs.length ∨ 20 < ys.length ∨ 20 < zs.length
  · have hE := St.nil w
    clear h1 h2 h3 x1 x2 x3 hwk
    generalize xs.length = n1 at *
    generalize ys.length = n2 at *
    generalize zs.length = n3 at *
    clear xs ys zs
    by_cases g1 : 20 < n1
    · have g1' : (20 : Int) < n1 := by omega
      clear g1 hg
      go_enter Try.func4, Try.ntmps4
      go_wp2_with fail
      go_at_call 9
      refine (wakes_any w w [] hE).mono ?_
      rintro e W ⟨rfl, hE⟩
      go_wp2_with fail
      go_ret
      exact ⟨rfl, hE.below⟩
    · have g1' : ¬ (20 : Int) < n1 := by omega
      by_cases g2 : 20 < n2
      · have g2' : (20 : Int) < n2 := by omega
        clear g1 g2 hg
        go_enter Try.func4, Try.ntmps4
        go_wp2_with fail
        go_at_call 9
        refine (wakes_any w w [] hE).mono ?_
        rintro e W ⟨rfl, hE⟩
        go_wp2_with fail
        go_ret
        exact ⟨rfl, hE.below⟩
      · have g2' : ¬ (20 : Int) < n2 := by omega
        have g3' : (20 : Int) < n3 := by omega
        clear g1 g2 hg
        go_enter Try.func4, Try.ntmps4
        go_wp2_with fail
        go_at_call 9
        refine (wakes_any w w [] hE).mono ?_
        rintro e W ⟨rfl, hE⟩
        go_wp2_with fail
        go_ret
        exact ⟨rfl, hE.below⟩
  · have hE1 := St.three h1 h2 h3 x1 x2 x3 (show xs.length ≤ 20 by omega) (show ys.length ≤ 20 by omega) (show zs.length ≤ 20 by omega)
    have g1' : ¬ (20 : Int) < xs.length := by omega
    have g2' : ¬ (20 : Int) < ys.length := by omega
    have g3' : ¬ (20 : Int) < zs.length := by omega
    have hcmp : ∃ d, cmp3 (val (toW (val xs + val ys))) (val xs) = d ∧ 0 ≤ d := by
      rw [val_toW]
      refine ⟨_, rfl, ?_⟩
      rcases Nat.eq_or_lt_of_le (Nat.le_add_right (val xs) (val ys)) with e | e
      · rw [cmp3_eq e.symm]; omega
      · rw [cmp3_gt e]; omega
    obtain ⟨d, hd, hd0⟩ := hcmp
    clear hg h1 h2 h3 x1 x2 x3
    generalize hn1 : xs.length = n1 at *
    generalize hn2 : ys.length = n2 at *
    generalize hn3 : zs.length = n3 at *
    clear hn1 hn2 hn3
    go_enter Try.func4, Try.ntmps4
    go_wp2_with fail
    clear g1' g2' g3'
    go_at_call 12
    refine (Add_st hE1 0 1 rfl rfl (by decide) (by decide)).mono ?_
    rintro e W ⟨ab, rfl, hE1⟩
    simp only [List.nil_append, List.cons_append] at hE1
    go_wp2_with fail
    go_at_call 12
    refine (Add_st hE1 1 0 rfl rfl (by decide) (by decide)).mono ?_
    rintro e W ⟨ba, rfl, hE1⟩
    simp only [List.nil_append, List.cons_append] at hE1
    go_wp2_with fail
    go_at_call 12
    refine (Add_st hE1 1 2 rfl rfl (by decide) (by decide)).mono ?_
    rintro e W ⟨bc, rfl, hE1⟩
    simp only [List.nil_append, List.cons_append] at hE1
    go_wp2_with fail
    go_at_call 12
    refine (Add_st hE1 3 2 rfl rfl (by decide) (by decide)).mono ?_
    rintro e W ⟨x, rfl, hE1⟩
    simp only [List.nil_append, List.cons_append] at hE1
    go_wp2_with fail
    go_at_call 12
    refine (Add_st hE1 0 5 rfl rfl (by decide) (by decide)).mono ?_
    rintro e W ⟨y, rfl, hE1⟩
    simp only [List.nil_append, List.cons_append] at hE1
    go_wp2_with fail
    go_at_call 20
    refine (Same_st hE1 3 4 rfl rfl (by rw [Nat.add_comm])).mono ?_
    rintro e W ⟨rfl, hE1⟩
    go_wp2_with fail
    go_at_call 20
    refine (Same_st hE1 6 7 rfl rfl (by rw [val_toW, val_toW, Nat.add_assoc])).mono ?_
    rintro e W ⟨rfl, hE1⟩
    go_wp2_with fail
    go_at_call 14
    refine (Mul_st hE1 0 1 rfl rfl (by decide) (by decide)).mono ?_
    rintro e W ⟨p, rfl, hE1⟩
    simp only [List.nil_append, List.cons_append] at hE1
    go_wp2_with fail
    go_at_call 14
    refine (Mul_st hE1 1 0 rfl rfl (by decide) (by decide)).mono ?_
    rintro e W ⟨q, rfl, hE1⟩
    simp only [List.nil_append, List.cons_append] at hE1
    go_wp2_with fail
    go_at_call 14
    refine (Mul_st hE1 8 2 rfl rfl (by decide) (by decide)).mono ?_
    rintro e W ⟨u, rfl, hE1⟩
    simp only [List.nil_append, List.cons_append] at hE1
    go_wp2_with fail
    go_at_call 14
    refine (Mul_st hE1 1 2 rfl rfl (by decide) (by decide)).mono ?_
    rintro e W ⟨v, rfl, hE1⟩
    simp only [List.nil_append, List.cons_append] at hE1
    go_wp2_with fail
    go_at_call 14
    refine (Mul_st hE1 0 11 rfl rfl (by decide) (by decide)).mono ?_
    rintro e W ⟨ww, rfl, hE1⟩
    simp only [List.nil_append, List.cons_append] at hE1
    go_wp2_with fail
    go_at_call 20
    refine (Same_st hE1 8 9 rfl rfl (by rw [Nat.mul_comm])).mono ?_
    rintro e W ⟨rfl, hE1⟩
    go_wp2_with fail
    go_at_call 20
    refine (Same_st hE1 10 12 rfl rfl (by rw [val_toW, val_toW, Nat.mul_assoc])).mono ?_
    rintro e W ⟨rfl, hE1⟩
    go_wp2_with fail
    go_at_call 14
    refine (Mul_st hE1 3 2 rfl rfl (by decide) (by decide)).mono ?_
    rintro e W ⟨s, rfl, hE1⟩
    simp only [List.nil_append, List.cons_append] at hE1
    go_wp2_with fail
    go_at_call 14
    refine (Mul_st hE1 0 2 rfl rfl (by decide) (by decide)).mono ?_
    rintro e W ⟨ac, rfl, hE1⟩
    simp only [List.nil_append, List.cons_append] at hE1
    go_wp2_with fail
    go_at_call 12
    refine (Add_st hE1 14 11 rfl rfl (by decide) (by decide)).mono ?_
    rintro e W ⟨t, rfl, hE1⟩
    simp only [List.nil_append, List.cons_append] at hE1
    go_wp2_with fail
    go_at_call 13
    refine (Sub_st hE1 3 1 rfl rfl (by decide) (by decide) (by rw [val_toW]; omega)).mono ?_
    rintro e W ⟨dd, rfl, hE1⟩
    simp only [List.nil_append, List.cons_append] at hE1
    go_wp2_with fail
    go_at_call 20
    refine (Same_st hE1 13 15 rfl rfl (by rw [val_toW, val_toW, val_toW, Nat.add_mul])).mono ?_
    rintro e W ⟨rfl, hE1⟩
    go_wp2_with fail
    go_at_call 21
    refine (Of_st hE1 0 rfl (by decide)).mono ?_
    rintro e W ⟨o, rfl, hE1⟩
    simp only [List.nil_append, List.cons_append] at hE1
    go_wp2_with fail
    go_at_call 20
    refine (Same_st hE1 16 17 rfl rfl (by rw [val_toW, Nat.add_sub_cancel])).mono ?_
    rintro e W ⟨rfl, hE1⟩
    go_wp2_with fail
    go_at_call 16
    refine (Cmp_st hE1 3 0 rfl rfl).mono ?_
    rw [hd]
    clear hd
    rintro e W ⟨rfl, hE1⟩
    go_wp2_with fail
    go_at_call 9
    refine (wakes_any w W _ hE1).mono ?_
    rintro e W ⟨rfl, hE1⟩
    go_wp2_with fail
    go_ret
    exact ⟨rfl, hE1.below⟩
end Go.Proofs.Ytocmmabpebbdaaa
