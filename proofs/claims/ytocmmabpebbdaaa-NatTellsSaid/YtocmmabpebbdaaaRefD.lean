/- The document's own answer: Less. -/
import Derived.Test.YtocmmabpebbdaaaRefC
namespace Go.Proofs.Ytocmmabpebbdaaa
open Go.RowKit

set_option maxRecDepth 100000 in
set_option maxHeartbeats 1000000 in
/-- lists in form: less as numbers -/
theorem Less_any {S T : Nat → Prop} {v u : Value} {p q : List Nat} (w : World) (h : SlS S .u32 w v p) (h' : SlS T .u32 w u q) (hx : Dig.Wf p) (hy : Dig.Wf q) (fx : norm p = p) (fy : norm q = q) :
    Calls Try.prog 26 #[v, u] w fun e w' => e = .returned (.bool (decide (Dig.val p < Dig.val q))) ∧ ∃ n, w' = w.drewN n := by
  obtain ⟨a, cap, rfl, hlc, hcap, hnil, hr'⟩ := h
  obtain ⟨a2, cap2, rfl, hlc2, hcap2, hnil2, hr2⟩ := h'
  rw [← dnorm_same] at fx fy
  have hpq1 : p.length < q.length → Dig.val p < Dig.val q := fun h => Dig.val_lt_of_length hx (by rw [fx, fy]; exact h)
  have hpq2 : q.length < p.length → Dig.val q < Dig.val p := fun h => Dig.val_lt_of_length hy (by rw [fx, fy]; exact h)
  clear hnil hnil2 fx fy
  by_cases hlen : p.length = q.length
  · have hne : ((p.length : Int) != (q.length : Int)) = false := by simp [hlen]
    have hl1 : p.length ≤ q.length := by omega
    have hl2 : q.length ≤ p.length := by omega
    have HL := Lib.hid hlen
    clear hlen hpq1 hpq2
    go_enter Try.func26, Try.ntmps26
    rcases hr' with hr' | ⟨b1, o1, rfl, _, hc1⟩
    · subst hr'
      have hq : q = [] := List.eq_nil_of_length_eq_zero (by simpa using hl2)
      subst hq
      go_wp2_with fail
      go_loopw [5] (fun i wr => i = .int .i64 (-1) ∧ wr = w) (fun i _ => 0)
      case atStart => exact ⟨rfl, rfl⟩
      case round =>
        obtain ⟨rfl, rfl⟩ := hrel
        go_wp2_with fail
        go_ret
        exact ⟨rfl, 0, rfl⟩
    rcases hr2 with hr2 | ⟨b2, o2, rfl, _, hc2⟩
    · subst hr2
      have hp : p = [] := List.eq_nil_of_length_eq_zero (by simpa using hl1)
      subst hp
      go_wp2_with fail
      go_loopw [5] (fun i wr => i = .int .i64 (-1) ∧ wr = w) (fun i _ => 0)
      case atStart => exact ⟨rfl, rfl⟩
      case round =>
        obtain ⟨rfl, rfl⟩ := hrel
        go_wp2_with fail
        go_ret
        exact ⟨rfl, 0, rfl⟩
    have HC1 := Lib.hid hc1
    have HC2 := Lib.hid hc2
    have HX := Lib.hid (And.intro hx hy)
    clear hc1 hc2 hx hy
    go_wp2_with fail
    go_loopw [5] (fun i wr => ∃ r : Nat, wr = w.drewN r ∧ ((∃ k : Nat, k < p.length ∧ i = .int .i64 k ∧ Hid (∀ j, k + 1 ≤ j → j < p.length → p.getD j 0 = q.getD j 0)) ∨ (i = .int .i64 (-1) ∧ Hid (∀ j, j < p.length → p.getD j 0 = q.getD j 0)))) (fun i _ => (intOf i + 1).toNat)
    case atStart =>
      refine ⟨0, rfl, ?_⟩
      by_cases h0 : p.length = 0
      · exact .inr ⟨by rw [h0]; rfl, fun j hj => by omega⟩
      · exact .inl ⟨p.length - 1, by omega, congrArg (Value.int .i64) (by omega), fun j h1 h2 => by omega⟩
    case round =>
      obtain ⟨r, rfl, ⟨k, hk, rfl, he⟩ | ⟨rfl, he⟩⟩ := hrel
      · have c1 := HC1.out k hk
        have c2 := HC2.out k (by omega)
        obtain ⟨x, hx⟩ : ∃ x, p.getD k 0 = x := ⟨_, rfl⟩
        obtain ⟨y, hy⟩ : ∃ y, q.getD k 0 = y := ⟨_, rfl⟩
        rw [hx] at c1
        rw [hy] at c2
        have Hx := Lib.hid hx
        have Hy := Lib.hid hy
        clear hx hy
        have i1 : 0 ≤ (k : Int) := by omega
        have i2 : (k : Int) < (p.length : Int) := by omega
        have i3 : (k : Int) < (q.length : Int) := by omega
        go_wp2_with fail
        go_quiet (fail)
        go_wp2_with fail
        · have hne2 : ((x : Int) != (y : Int)) = true := by assumption
          go_quiet (fail)
          go_wp2_with fail
          go_ret
          refine ⟨congrArg (fun n => Ending.returned (.bool n)) ?_, _, by rw [World.drewN_drewN, World.drewN_drewN]⟩
          have hxy : x ≠ y := by intro e; rw [e] at hne2; simp at hne2
          have e1 := Hx.out
          have e2 := Hy.out
          rcases Nat.lt_or_gt_of_ne hxy with hlt | hgt
          · have := Dig.val_lt_of_word HX.out.1 k HL.out hk he.out (by omega)
            rw [decide_eq_true (by omega), decide_eq_true this]
          · have := Dig.val_lt_of_word HX.out.2 k HL.out.symm (by omega) (fun j h1 h2 => (he.out j h1 (by omega)).symm) (by omega)
            rw [decide_eq_false (by omega), decide_eq_false (by omega)]
        · have hne2 : ((x : Int) != (y : Int)) = false := by assumption
          have hxy := nat_of_bne hne2
          have e1 := Hx.out
          have e2 := Hy.out
          go_roundw
          case rel =>
            refine ⟨r + nq, rfl, ?_⟩
            have he2 : ∀ j, k ≤ j → j < p.length → p.getD j 0 = q.getD j 0 := by
              intro j h1 h2
              by_cases e : j = k
              · rw [e, e1, e2, hxy]
              · exact he.out j (by omega) h2
            by_cases h0 : k = 0
            · subst h0
              exact .inr ⟨rfl, fun j hj => he2 j (Nat.zero_le _) hj⟩
            · exact .inl ⟨k - 1, by omega, congrArg (Value.int .i64) (by omega), fun j h1 h2 => he2 j (by omega) h2⟩
          case measure => simp [intOf]
      · go_wp2_with fail
        go_ret
        have := Dig.val_eq_of_words HL.out he.out
        exact ⟨congrArg (fun n => Ending.returned (.bool n)) (decide_eq_false (by omega)).symm, r, rfl⟩
  · have hne : ((p.length : Int) != (q.length : Int)) = true := bne_iff_ne.2 (by omega)
    have HP := Lib.hid (And.intro hpq1 hpq2)
    clear hpq1 hpq2 hr' hr2
    go_enter Try.func26, Try.ntmps26
    go_wp2_with fail
    go_ret
    refine ⟨congrArg (fun n => Ending.returned (.bool n)) ?_, 0, rfl⟩
    rcases Nat.lt_or_gt_of_ne hlen with hlt | hgt
    · rw [decide_eq_true (by omega), decide_eq_true (HP.out.1 hlt)]
    · have := HP.out.2 hgt
      rw [decide_eq_false (by omega), decide_eq_false (by omega)]
end Go.Proofs.Ytocmmabpebbdaaa
