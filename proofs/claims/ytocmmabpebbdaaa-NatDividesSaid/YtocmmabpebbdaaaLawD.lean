/- NatDivides. -/
import Derived.Test.YtocmmabpebbdaaaLawC
import Derived.Test.YtocmmabpebbdaaaNatK
namespace Go.Proofs.Ytocmmabpebbdaaa
open Go.RowKit

theorem St.two {w : World} {a b : Value} {xs ys : List Nat} {k : Nat} (h1 : Sl w a xs) (h2 : Sl w b ys) (x1 : Wf xs) (x2 : Wf ys) (l1 : xs.length ≤ k) (l2 : ys.length ≤ k) :
    St w w [⟨a, xs, k⟩, ⟨b, ys, k⟩] := ((St.nil w).add h1 x1 l1).add h2 x2 l2

set_option maxRecDepth 100000 in
set_option maxHeartbeats 4000000 in
theorem NatDivides_any (w : World) {v1 v2 : Value} {xs ys : List Nat} (h1 : Sl w v1 xs) (h2 : Sl w v2 ys) (x1 : Wf xs) (x2 : Wf ys) :
    Calls Try.prog 5 #[v1, v2] w fun e w' => e = .returned (.bool true) ∧ Below w.heap.size w w' := by
  obtain ⟨a1, c1, rfl⟩ : ∃ a c, v1 = .slice a xs.length c := let ⟨a, c, e, _⟩ := h1; ⟨a, c, e⟩
  obtain ⟨a2, c2, rfl⟩ : ∃ a c, v2 = .slice a ys.length c := let ⟨a, c, e, _⟩ := h2; ⟨a, c, e⟩
  by_cases hg : 20 < xs.length ∨ 20 < ys.length
  · have hE := St.nil w
    clear h1 h2 x1 x2
    generalize xs.length = n1 at *
    generalize ys.length = n2 at *
    clear xs ys
    by_cases g1 : 20 < n1
    · have g1' : (20 : Int) < n1 := by omega
      clear g1 hg
      go_enter Try.func5, Try.ntmps5
      go_wp2_with fail
      go_at_call 9
      refine (wakes_any w w [] hE).mono ?_
      rintro e W ⟨rfl, hE⟩
      go_wp2_with fail
      go_ret
      exact ⟨rfl, hE.below⟩
    · have g1' : ¬ (20 : Int) < n1 := by omega
      have g2' : (20 : Int) < n2 := by omega
      clear g1 hg
      go_enter Try.func5, Try.ntmps5
      go_wp2_with fail
      go_at_call 9
      refine (wakes_any w w [] hE).mono ?_
      rintro e W ⟨rfl, hE⟩
      go_wp2_with fail
      go_ret
      exact ⟨rfl, hE.below⟩
  · have l1 : xs.length ≤ 20 := by omega
    have l2 : ys.length ≤ 20 := by omega
    have hE1 := St.two h1 h2 x1 x2 l1 l2
    have g1' : ¬ (20 : Int) < xs.length := by omega
    have g2' : ¬ (20 : Int) < ys.length := by omega
    by_cases hz : val ys = 0
    · have hdm := DivMod_zero w h1 h2 (by omega) (by omega) hz
      have hof := fun (W : World) (hb : Below w.heap.size w W) => Of_any (n := 0) W (h2.below hb) x2 (by omega) (by rw [hz]; rfl)
      have HD := Lib.hid hdm
      have HO := Lib.hid hof
      clear hdm hof hg h1 h2 x1 x2 l1 l2 hz hE1
      generalize xs.length = n1 at *
      generalize ys.length = n2 at *
      go_enter Try.func5, Try.ntmps5
      go_wp2_with fail
      go_at_call 15
      refine HD.out.mono ?_
      rintro e W ⟨rfl, hb⟩
      go_wp2_with fail
      go_at_call 21
      refine (HO.out W hb).mono ?_
      rintro e W' ⟨rfl, hb', _⟩
      have hE : St w W' [] := ⟨Below.follow hb hb', fun i e he => by simp at he⟩
      clear hb hb' HO HD
      go_wp2_with fail
      go_at_call 9
      refine (wakes_any w W' [] hE).mono ?_
      rintro e W ⟨rfl, hE⟩
      go_wp2_with fail
      go_ret
      exact ⟨rfl, hE.below⟩
    · have hpos : 0 < val ys := by omega
      have hcmp : ∃ d, cmp3 (val (toW (val xs % val ys))) (val ys) = d ∧ d < 0 := by
        rw [val_toW]
        exact ⟨_, rfl, by rw [cmp3_lt (Nat.mod_lt _ hpos)]; omega⟩
      obtain ⟨d, hd, hd0⟩ := hcmp
      have hsum : val (toW (val (toW (val xs / val ys)) * val ys)) + val (toW (val xs % val ys)) = val xs := by
        rw [val_toW, val_toW, val_toW, Nat.mul_comm]; exact Nat.div_add_mod _ _
      clear hg h1 h2 x1 x2 l1 l2 hz
      generalize hn1 : xs.length = n1 at *
      generalize hn2 : ys.length = n2 at *
      clear hn1 hn2
      have HS := Lib.hid hsum
      have HP := Lib.hid hpos
      have HDd := Lib.hid hd
      clear hsum hpos hd
      go_enter Try.func5, Try.ntmps5
      go_wp2_with fail
      clear g1' g2'
      go_at_call 15
      refine (DivMod_st hE1 0 1 rfl rfl (by decide) (by decide) HP.out).mono ?_
      rintro e W ⟨q, r, rfl, hE1⟩
      simp only [List.nil_append, List.cons_append] at hE1
      go_wp2_with fail
      go_at_call 14
      refine (Mul_st hE1 2 1 rfl rfl (by decide) (by decide)).mono ?_
      rintro e W ⟨p, rfl, hE1⟩
      simp only [List.nil_append, List.cons_append] at hE1
      go_wp2_with fail
      go_at_call 12
      refine (Add_st hE1 4 3 rfl rfl (by decide) (by decide)).mono ?_
      rintro e W ⟨s, rfl, hE1⟩
      simp only [List.nil_append, List.cons_append] at hE1
      go_wp2_with fail
      go_at_call 15
      refine (DivMod_st hE1 5 1 rfl rfl (by decide) (by decide) HP.out).mono ?_
      rintro e W ⟨o, z, rfl, hE1⟩
      simp only [List.nil_append, List.cons_append] at hE1
      go_wp2_with fail
      go_at_call 21
      refine (Of_st hE1 0 rfl (by decide)).mono ?_
      rintro e W ⟨oa, rfl, hE1⟩
      simp only [List.nil_append, List.cons_append] at hE1
      go_wp2_with fail
      go_at_call 20
      refine (Same_st hE1 5 8 rfl rfl (by rw [HS.out])).mono ?_
      rintro e W ⟨rfl, hE1⟩
      go_wp2_with fail
      go_at_call 16
      refine (Cmp_st hE1 3 1 rfl rfl).mono ?_
      rw [HDd.out]
      rintro e W ⟨rfl, hE1⟩
      go_wp2_with fail
      go_at_call 20
      refine (Same_st hE1 6 2 rfl rfl (by rw [HS.out, val_toW])).mono ?_
      rintro e W ⟨rfl, hE1⟩
      go_wp2_with fail
      go_at_call 20
      refine (Same_st hE1 7 3 rfl rfl (by rw [HS.out, val_toW])).mono ?_
      rintro e W ⟨rfl, hE1⟩
      go_wp2_with fail
      go_at_call 9
      refine (wakes_any w W _ hE1).mono ?_
      rintro e W ⟨rfl, hE1⟩
      go_wp2_with fail
      go_ret
      exact ⟨rfl, hE1.below⟩
end Go.Proofs.Ytocmmabpebbdaaa
