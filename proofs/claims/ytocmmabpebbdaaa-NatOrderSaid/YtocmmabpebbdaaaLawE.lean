/- NatOrder. -/
import Derived.Test.YtocmmabpebbdaaaLawC
namespace Go.Proofs.Ytocmmabpebbdaaa
open Go.RowKit

theorem St.drop {w W : World} {L : List Ent} {e : Ent} (h : St w W (L ++ [e])) : St w W L :=
  ⟨h.below, fun i e' he => h.env i e' (by rw [List.getElem?_append_left (List.getElem?_eq_some_iff.1 he).1]; exact he)⟩
theorem SubAny_st {w W : World} {L : List Ent} (hE : St w W L) {v u : Value} {xs ys : List Nat} {j k : Nat} (i1 i2 : Nat) (h1 : L[i1]? = some ⟨v, xs, j⟩) (h2 : L[i2]? = some ⟨u, ys, k⟩) (hj : j ≤ 80) (hk : k ≤ 80) :
    Calls Try.prog 13 #[v, u] W fun e w' => ∃ r, e = .returned (.tuple #[r, .int .i64 (if val xs < val ys then 1 else 0)]) ∧ St w w' L := by
  by_cases h : val xs < val ys
  · rw [if_pos h]
    exact (SubErr_st hE i1 i2 h1 h2 hj hk h).mono fun e w' ⟨he, hs⟩ => ⟨_, he, hs⟩
  · rw [if_neg h]
    exact (Sub_st hE i1 i2 h1 h2 hj hk (by omega)).mono fun e w' ⟨r, he, hs⟩ => ⟨r, he, hs.drop⟩

theorem sl_of_row {W : World} {base : Nat} {v : Value} {n : Nat} {xs : List Nat} (h : W.ownsRow base 41 1 v n (wvs .u64 xs)) : Sl W v xs := by
  have hl : xs.length = n := by have := h.1; simpa [wvs] using this
  obtain ⟨_, ⟨rfl, h0⟩ | ⟨g, cap, cur, rfl, hb, hc, hn, hm, hs, ht⟩⟩ := id h
  · subst h0
    have : xs = [] := List.eq_nil_of_length_eq_zero hl
    subst this
    exact SlS.nil _ _ _
  · refine ⟨some ⟨g, 0, none⟩, cap, by rw [hl], by rw [hl]; exact hn, by unfold maxLen at hm; omega, by simp, .inr ⟨g, 0, rfl, fun h => h, fun j hj => ?_⟩⟩
    have := h.cells rfl j (.int .u64 ((xs.getD j 0 : Nat) : Int)) (by simp [wvs, List.getD, hj])
    rw [Addr.add_lit, Nat.zero_add] at this
    rw [Nat.zero_add]
    exact this

/-- a word ahead of a number: append([]uint64{0}, x...) -/
theorem append0 {w W : World} {L : List Ent} (hE : St w W L) {a : Option Addr} {n c : Nat} {xs : List Nat} {j : Nat} (i1 : Nat) (h1 : L[i1]? = some ⟨.slice a n c, xs, j⟩) (hj : j ≤ 1000) :
    ∃ v' w', (Builtin.append_ #[22, 22] 22 #[.slice (some ⟨W.heap.size, 0, none⟩) 1 1, .slice a n c]).run Try.prog (W.alloc (.cells #[.int .u64 0] 41)) = .ok v' w' ∧ St w w' (L ++ [⟨v', 0 :: xs, j + 1⟩]) := by
  have o := hE.env _ _ h1
  obtain ⟨a', c', e, g1, g2, g3, g4⟩ := o.sl
  have hlen := o.len
  have hwf := o.wf
  simp only at e g1 g2 g3 g4 hlen hwf
  cases e
  have hbA : Below W.heap.size W (W.alloc (.cells #[.int .u64 0] 41)) := (Below.refl _ W).alloc (Nat.le_refl _) _
  have hwf0 : Wf (0 :: xs) := fun y hy => by
    rcases List.mem_cons.1 hy with rfl | hy
    · exact W64_pos
    · exact hwf y hy
  by_cases hx : xs = []
  · subst hx
    refine ⟨.slice (some ⟨W.heap.size, 0, none⟩) 1 1, W.alloc (.cells #[.int .u64 0] 41), ?_, (hE.go hbA).add ((Blk.new .u64 41 W [0]).sl 1 (Nat.le_refl _) (by omega) (fun h => h)) hwf0 (by simp)⟩
    obtain ⟨i, hi, _, hsz, _⟩ := info_parts info_u64
    cases a <;> simp [Builtin.append_, Builtin.lenOf, Builtin.firstCells, loadCells, storeCells, sizeOf, typeInfo, hi, go_sem]
  · have hp : 0 < xs.length := List.length_pos_iff.2 hx
    rcases g4 with g4 | ⟨b, off, rfl, _, hc⟩
    · exact absurd g4 hx
    have hown : (W.alloc (.cells #[.int .u64 0] 41)).ownsRow W.heap.size 41 1 (.slice (some ⟨W.heap.size, 0, none⟩) 1 1) 1 [.int .u64 0] :=
      ⟨rfl, .inr ⟨W.heap.size, 1, #[.int .u64 0], rfl, Nat.le_refl _, heap_alloc_new W _, Nat.le_refl _, by unfold maxLen; omega, rfl, rfl⟩⟩
    obtain ⟨i, hi, hz0, hz1, hz2⟩ := info_parts info_u64
    obtain ⟨v', w', hrun, r1, r2, _⟩ := run_append_own (P := Try.prog) (W.alloc (.cells #[.int .u64 0] 41)) W.heap.size 22 22 41 i (.int .u64 0) 1 8 Try.underlying22 hi hz0 hz1 hz2 rfl (by decide)
      (.slice (some ⟨W.heap.size, 0, none⟩) 1 1) 1 [.int .u64 0] hown ⟨b, off, none⟩ xs.length c (wvs .u64 xs) (by simp [wvs])
      (fun j u hj => by
        have hj2 : j < xs.length := by have := (List.getElem?_eq_some_iff.1 hj).1; simpa [wvs] using this
        have h2 := cellOld (o := .cells #[.int .u64 0] 41) (hc j hj2)
        have h3 : u = .int .u64 ((xs.getD j 0 : Nat) : Int) := by simpa [wvs, List.getD, hj2] using hj.symm
        rw [h3, Addr.add_lit]
        exact h2)
      (fun u hu => by simp only [wvs, List.mem_map] at hu; obtain ⟨_, _, rfl⟩ := hu; rfl)
      (by unfold maxLen; omega) (by omega) (by simp)
    refine ⟨v', w', hrun, ?_⟩
    have hB : Below W.heap.size W w' := hbA.grown r2 (by simp) (fun k e => by cases e; exact Nat.le_refl _)
    have r1' : w'.ownsRow W.heap.size 41 1 v' (1 + xs.length) (wvs .u64 (0 :: xs)) := r1
    exact (hE.go hB).add (sl_of_row r1') hwf0 (by simp; omega)

theorem wpList_append_run {P : Program} {w w' : World} {ops : Array Oper} {rest : List Oper} {o : Oper} {a : Act} {Q : Exit → Act → World → Prop}
    (hg : o.guard = none) (s x : Operand) (t : TypeId) (hop : o.op = Op.call { callee := Callee.builtin Builtin.append, args := #[s, x], argTypes := #[t, t] })
    {v u v' : Value} (hs : a.eval s = v) (hx : a.eval x = u) (hrun : (Builtin.append_ #[t, t] o.type #[v, u]).run P w = .ok v' w') (hK : wpList P ops Q rest (a.put o.dst v') w') : wpList P ops Q (o :: rest) a w := by
  refine wpList_plain hg fun K hK' => ?_
  unfold Oper.wp
  simp [execOp, hop, resolve, invoke, builtin, hs, hx, hrun, Result.andThen]
  exact hK' _ _ hK

theorem val_up (xs : List Nat) : val xs * val [0, 1] = val (0 :: xs) := by
  simp only [val_cons, show val [] = 0 from rfl]
  rw [Nat.zero_add, Nat.zero_add, Nat.mul_zero, Nat.add_zero, Nat.mul_one, Nat.mul_comm]

set_option maxRecDepth 100000 in
set_option maxHeartbeats 4000000 in
theorem NatOrder_any (w : World) {v1 v2 v3 : Value} {xs ys zs : List Nat} (h1 : Sl w v1 xs) (h2 : Sl w v2 ys) (h3 : Sl w v3 zs) (x1 : Wf xs) (x2 : Wf ys) (x3 : Wf zs) :
    Calls Try.prog 7 #[v1, v2, v3] w fun e w' => e = .returned (.bool true) ∧ Below w.heap.size w w' := by
  obtain ⟨a1, c1, rfl⟩ : ∃ a c, v1 = .slice a xs.length c := let ⟨a, c, e, _⟩ := h1; ⟨a, c, e⟩
  obtain ⟨a2, c2, rfl⟩ : ∃ a c, v2 = .slice a ys.length c := let ⟨a, c, e, _⟩ := h2; ⟨a, c, e⟩
  obtain ⟨a3, c3, rfl⟩ : ∃ a c, v3 = .slice a zs.length c := let ⟨a, c, e, _⟩ := h3; ⟨a, c, e⟩
  by_cases hg : 20 < xs.length ∨ 20 < ys.length ∨ 20 < zs.length
  · have hE := St.nil w
    clear h1 h2 h3 x1 x2 x3
    generalize xs.length = n1 at *
    generalize ys.length = n2 at *
    generalize zs.length = n3 at *
    clear xs ys zs
    by_cases g1 : 20 < n1
    · have g1' : (20 : Int) < n1 := by omega
      clear g1 hg
      go_enter Try.func7, Try.ntmps7
      go_wp2_with fail
      go_at_call 9
      refine (wakes_any w w [] hE).mono ?_
      rintro e W ⟨rfl, hE⟩
      go_wp2_with fail
      go_ret
      exact ⟨rfl, hE.below⟩
    · have g1' : ¬ (20 : Int) < n1 := by omega
      by_cases g2 : 20 < n2
      · have g2' : (20 : Int) < n2 := by omega
        clear g1 g2 hg
        go_enter Try.func7, Try.ntmps7
        go_wp2_with fail
        go_at_call 9
        refine (wakes_any w w [] hE).mono ?_
        rintro e W ⟨rfl, hE⟩
        go_wp2_with fail
        go_ret
        exact ⟨rfl, hE.below⟩
      · have g2' : ¬ (20 : Int) < n2 := by omega
        have g3' : (20 : Int) < n3 := by omega
        clear g1 g2 hg
        go_enter Try.func7, Try.ntmps7
        go_wp2_with fail
        go_at_call 9
        refine (wakes_any w w [] hE).mono ?_
        rintro e W ⟨rfl, hE⟩
        go_wp2_with fail
        go_ret
        exact ⟨rfl, hE.below⟩
  · have hE1 := St.three h1 h2 h3 x1 x2 x3 (show xs.length ≤ 20 by omega) (show ys.length ≤ 20 by omega) (show zs.length ≤ 20 by omega)
    have g1' : ¬ (20 : Int) < xs.length := by omega
    have g2' : ¬ (20 : Int) < ys.length := by omega
    have g3' : ¬ (20 : Int) < zs.length := by omega
    have hkey : ∃ d es : Int, cmp3 (val xs) (val ys) = d ∧ cmp3 (val ys) (val xs) = -d ∧ cmp3 (val (toW (val xs + val zs))) (val (toW (val ys + val zs))) = d ∧ (if val xs < val ys then (1 : Int) else 0) = es ∧ ((d = -1 ∧ es = 1) ∨ (d = 0 ∧ es = 0) ∨ (d = 1 ∧ es = 0)) := by
      rw [val_toW, val_toW]
      rcases Nat.lt_trichotomy (val xs) (val ys) with h | h | h
      · refine ⟨-1, 1, cmp3_lt h, ?_, cmp3_lt (by omega), by rw [if_pos h], .inl ⟨rfl, rfl⟩⟩
        rw [cmp3_gt h]; rfl
      · refine ⟨0, 0, cmp3_eq h, ?_, cmp3_eq (by omega), by rw [if_neg (by omega)], .inr (.inl ⟨rfl, rfl⟩)⟩
        rw [cmp3_eq h.symm]; rfl
      · refine ⟨1, 0, cmp3_gt h, ?_, cmp3_gt (by omega), by rw [if_neg (by omega)], .inr (.inr ⟨rfl, rfl⟩)⟩
        rw [cmp3_lt h]
    obtain ⟨d, es, k1, k2, k3, k4, k5⟩ := hkey
    clear hg h1 h2 h3 x1 x2 x3
    generalize hn1 : xs.length = n1 at *
    generalize hn2 : ys.length = n2 at *
    generalize hn3 : zs.length = n3 at *
    clear hn1 hn2 hn3
    have K1 := Lib.hid k1
    have K2 := Lib.hid k2
    have K3 := Lib.hid k3
    have K4 := Lib.hid k4
    clear k1 k2 k3 k4
    rcases k5 with ⟨rfl, rfl⟩ | ⟨rfl, rfl⟩ | ⟨rfl, rfl⟩
    all_goals
      go_enter Try.func7, Try.ntmps7
      go_wp2_with fail
      clear g1' g2' g3'
      go_at_call 13
      refine (SubAny_st hE1 0 1 rfl rfl (by decide) (by decide)).mono ?_
      rw [K4.out]
      rintro e W ⟨r, rfl, hE1⟩
      go_wp2_with fail
      go_at_call 12
      refine (Add_st hE1 0 2 rfl rfl (by decide) (by decide)).mono ?_
      rintro e W ⟨x, rfl, hE1⟩
      simp only [List.nil_append, List.cons_append] at hE1
      go_wp2_with fail
      go_at_call 12
      refine (Add_st hE1 1 2 rfl rfl (by decide) (by decide)).mono ?_
      rintro e W ⟨y, rfl, hE1⟩
      replace hE1 := hE1.new2 0 1 (by decide) (by decide) (n := W.heap.size) rfl
      simp only [List.nil_append, List.cons_append] at hE1
      go_wp2_with fail
      go_at_call 14
      refine (Mul_st hE1 0 5 rfl rfl (by decide) (by decide)).mono ?_
      rintro e W ⟨p, rfl, hE1⟩
      simp only [List.nil_append, List.cons_append] at hE1
      obtain ⟨up, W', hrun, hE2⟩ := append0 hE1 0 rfl (by decide)
      simp only [List.nil_append, List.cons_append] at hE2
      clear hE1
      go_wp2_with (at_builtin; refine wpList_append_run rfl _ _ _ rfl rfl rfl hrun ?_)
      clear hrun
      go_at_call 16
      refine (Cmp_st hE2 0 1 rfl rfl).mono ?_
      rw [K1.out]
      rintro e W ⟨rfl, hE2⟩
      go_wp2_with fail
      go_at_call 16
      refine (Cmp_st hE2 3 4 rfl rfl).mono ?_
      rw [K3.out]
      rintro e W ⟨rfl, hE2⟩
      go_wp2_with fail
      go_at_call 16
      refine (Cmp_st hE2 0 1 rfl rfl).mono ?_
      rw [K1.out]
      rintro e W ⟨rfl, hE2⟩
      go_wp2_with fail
      go_at_call 16
      refine (Cmp_st hE2 1 0 rfl rfl).mono ?_
      rw [K2.out]
      rintro e W ⟨rfl, hE2⟩
      go_wp2_with fail
      go_at_call 16
      refine (Cmp_st hE2 0 1 rfl rfl).mono ?_
      rw [K1.out]
      rintro e W ⟨rfl, hE2⟩
      go_wp2_with fail
      go_at_call 21
      refine (Of_st hE2 7 rfl (by decide)).mono ?_
      rintro e W ⟨o, rfl, hE2⟩
      simp only [List.nil_append, List.cons_append] at hE2
      go_wp2_with fail
      go_at_call 20
      refine (Same_st hE2 6 8 rfl rfl (by rw [val_up])).mono ?_
      rintro e W ⟨rfl, hE2⟩
      go_wp2_with fail
      go_at_call 9
      refine (wakes_any w W _ hE2).mono ?_
      rintro e W ⟨rfl, hE2⟩
      go_wp2_with fail
      go_ret
      exact ⟨rfl, hE2.below⟩
end Go.Proofs.Ytocmmabpebbdaaa
