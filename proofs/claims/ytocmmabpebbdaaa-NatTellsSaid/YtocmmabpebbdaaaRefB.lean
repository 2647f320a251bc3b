/- The document's own answer: Plus. -/
import Derived.Test.YtocmmabpebbdaaaRefA
namespace Go.Proofs.Ytocmmabpebbdaaa
open Go.RowKit

theorem dnorm_same (xs : List Nat) : Dig.norm xs = norm xs := by
  induction xs with
  | nil => rfl
  | cons x xs ih => simp only [Dig.norm, norm, ih]
theorem getD_beyond {xs : List Nat} {k : Nat} (h : xs.length ≤ k) : xs.getD k 0 = 0 := by simp [List.getD, h]

theorem dmn_wf (xs ys : List Nat) (k : Nat) : Dig.Wf ((List.range k).map (Dig.mn 1 0 (fun i => xs.getD i 0) (fun i => ys.getD i 0))) := by
  intro x hx
  obtain ⟨i, _, rfl⟩ := List.mem_map.1 hx
  exact Dig.mn_lt _ _ _ _ _
/-- where both numbers are at their end, and nothing is carried, the sum stands there -/
theorem dsum_done (xs ys : List Nat) (k : Nat) (h1 : xs.length ≤ k) (h2 : ys.length ≤ k) (hc : 0 = Dig.mc 1 0 (fun i => xs.getD i 0) (fun i => ys.getD i 0) k) :
    norm ((List.range k).map (Dig.mn 1 0 (fun i => xs.getD i 0) (fun i => ys.getD i 0))) = Dig.toW (Dig.val xs + Dig.val ys) := by
  have e := Dig.mn_val 1 0 (fun i => xs.getD i 0) (fun i => ys.getD i 0) k
  rw [← hc, Dig.sval_getD, Dig.sval_getD, List.take_of_length_le h1, List.take_of_length_le h2, ← Dig.val_range_map] at e
  have e2 : Dig.val xs + Dig.val ys = Dig.val ((List.range k).map (Dig.mn 1 0 (fun i => xs.getD i 0) (fun i => ys.getD i 0))) := by omega
  rw [e2, Dig.toW_val (dmn_wf xs ys k), dnorm_same]

set_option maxRecDepth 100000 in
set_option maxHeartbeats 1000000 in
theorem Plus_any {v u : Value} {xs ys : List Nat} (w : World) (h : SlD w v xs) (h' : SlD w u ys) (hx : Dig.Wf xs) (hy : Dig.Wf ys) (hl : xs.length ≤ 10000) (hl' : ys.length ≤ 10000) :
    Calls Try.prog 24 #[v, u] w fun e w' => ∃ r, e = .returned r ∧ SlS (fun b => b < w.heap.size) .u32 w' r (Dig.toW (Dig.val xs + Dig.val ys)) ∧ Below w.heap.size w w' := by
  obtain ⟨a, cap, rfl⟩ : ∃ a cap, v = .slice a xs.length cap := let ⟨a, c, e, _⟩ := h; ⟨a, c, e⟩
  obtain ⟨b, bcap, rfl⟩ : ∃ a cap, u = .slice a ys.length cap := let ⟨a, c, e, _⟩ := h'; ⟨a, c, e⟩
  obtain ⟨la, hla⟩ : ∃ la, la = xs.length := ⟨_, rfl⟩
  obtain ⟨lb, hlb⟩ : ∃ lb, lb = ys.length := ⟨_, rfl⟩
  rw [← hla] at h hl ⊢
  rw [← hlb] at h' hl' ⊢
  have H := Lib.hid (And.intro h (And.intro h' (And.intro hx (And.intro hy (And.intro hla hlb)))))
  clear h h' hx hy hla hlb
  go_enter Try.func24, Try.ntmps24
  go_wp2_with fail
  go_loopw [5, 6, 7] (fun v c i wr => ∃ k cc : Nat, k ≤ max la lb + 1 ∧ i = .int .i64 k ∧ c = .int .u32 cc ∧ Hid (cc = Dig.mc 1 0 (fun i => xs.getD i 0) (fun i => ys.getD i 0) k) ∧ wr.ownsRow w.heap.size 56 1 v k (wvs .u32 ((List.range k).map (Dig.mn 1 0 (fun i => xs.getD i 0) (fun i => ys.getD i 0)))) ∧ Below w.heap.size w wr) (fun _ _ i _ => max la lb + 2 - (intOf i).toNat)
  case atStart => exact ⟨0, 0, Nat.zero_le _, rfl, rfl, rfl, World.ownsRow_nil _ _ _ _, Below.refl _ _⟩
  case round =>
    obtain ⟨k, cc, hk, rfl, rfl, hcc, hown, hb⟩ := hrel
    have hx := H.out.2.2.1.getD k
    have hy := H.out.2.2.2.1.getD k
    have hc1 : cc ≤ 1 := by rw [hcc.out]; exact Dig.mc_le_one (by omega) (fun i => H.out.2.2.1.getD i) (fun i => H.out.2.2.2.1.getD i) k
    rw [Dig.W16_eq] at hx hy
    have hat := at_any k wr (H.out.1.below hb)
    have hat2 := at_any k wr (H.out.2.1.below hb)
    have hend : la ≤ k → lb ≤ k → 0 < cc → k ≤ max la lb := by
      intro h1 h2 h3
      rcases Nat.lt_or_ge (max la lb) k with h | h
      · exfalso
        obtain ⟨j, rfl⟩ : ∃ j, k = j + 1 := ⟨k - 1, by omega⟩
        have e1 : xs.getD j 0 = 0 := getD_beyond (by have := H.out.2.2.2.2.1; omega)
        have e2 : ys.getD j 0 = 0 := getD_beyond (by have := H.out.2.2.2.2.2; omega)
        have e3 := Dig.mc_le_one (c := 0) (by omega) (fun i => H.out.2.2.1.getD i) (fun i => H.out.2.2.2.1.getD i) j
        have e4 := hcc.out
        simp only [Dig.mc, e1, e2] at e4
        omega
      · exact h
    have hnext : Dig.mc 1 0 (fun i => xs.getD i 0) (fun i => ys.getD i 0) (k + 1) = (xs.getD k 0 + ys.getD k 0 + cc) / 65536 := by
      rw [hcc.out]; simp only [Dig.mc, Nat.one_mul]
    have hnew : Dig.mn 1 0 (fun i => xs.getD i 0) (fun i => ys.getD i 0) k = (xs.getD k 0 + ys.getD k 0 + cc) % 65536 := by
      rw [hcc.out]; simp only [Dig.mn, Nat.one_mul]
    generalize xs.getD k 0 = x at *
    generalize ys.getD k 0 = y at *
    by_cases hcont : k < la ∨ k < lb ∨ 0 < cc
    · obtain ⟨nx, hnx⟩ : ∃ nx, nx = (x + y + cc) % 65536 := ⟨_, rfl⟩
      obtain ⟨c2, hc2⟩ : ∃ c2, c2 = (x + y + cc) / 65536 := ⟨_, rfl⟩
      rw [← hnx] at hnew
      rw [← hc2] at hnext
      have hkm : k ≤ max la lb := by
        rcases Nat.lt_or_ge k la with h | h1
        · omega
        · rcases Nat.lt_or_ge k lb with h | h2
          · omega
          · exact hend h1 h2 (by omega)
      obtain ⟨v', w', hrun, hown', hb'⟩ := append1 Try.underlying26 info_u32 (by omega) nx hown hb.size (by omega)
      have hw1 : IntKind.u32.wrap ((x : Int) + (y : Int)) = (x : Int) + (y : Int) := by
        rw [show ((x : Int) + (y : Int)) = ((x + y : Nat) : Int) by simp, wrap_u32_nat, Nat.mod_eq_of_lt (by omega)]
      have hw2 : IntKind.u32.wrap ((x : Int) + (y : Int) + (cc : Int)) = (x : Int) + (y : Int) + (cc : Int) := by
        rw [show ((x : Int) + (y : Int) + (cc : Int)) = ((x + y + cc : Nat) : Int) by simp, wrap_u32_nat, Nat.mod_eq_of_lt (by omega)]
      have hr1 : ((x : Int) + (y : Int) + (cc : Int)).tmod 65536 = (nx : Int) := by rw [Int.tmod_eq_emod_of_nonneg (by omega)]; omega
      have hr2 : ((x : Int) + (y : Int) + (cc : Int)) % 65536 = (nx : Int) := by omega
      have hr3 : ((x : Int) + (y : Int) + (cc : Int)).tdiv 65536 = (c2 : Int) := by rw [Int.tdiv_eq_ediv_of_nonneg (by omega)]; omega
      have hr4 : ((x : Int) + (y : Int) + (cc : Int)) / 65536 = (c2 : Int) := by omega
      have hw3 : IntKind.u32.wrap (c2 : Int) = (c2 : Int) := by rw [wrap_u32_nat, Nat.mod_eq_of_lt (by omega)]
      have hw4 : IntKind.u32.wrap (nx : Int) = (nx : Int) := by rw [wrap_u32_nat, Nat.mod_eq_of_lt (by omega)]
      have hcond : (k : Int) < la ∨ (¬ (k : Int) < la ∧ (k : Int) < lb) ∨ (¬ (k : Int) < la ∧ ¬ (k : Int) < lb ∧ (0 : Int) < cc) := by omega
      have hk64 : (k : Int) ≤ 10000 := by omega
      have HA := Lib.hid hat
      have HA2 := Lib.hid hat2
      have HN := Lib.hid (And.intro hnext (And.intro hnew hkm))
      have HO := Lib.hid hown'
      have HB := Lib.hid (hb.trans hb')
      clear hat hat2 hnext hnew hkm hown' hb' hown hend hcont hnx hc2 hcc hk hx hy hc1 hl hl'
      rcases hcond with g1 | ⟨g1, g2⟩ | ⟨g1, g2, g3⟩
      all_goals
        go_wp2_with fail
        go_at_call 46
        refine HA.out.mono ?_
        rintro e w1 ⟨rfl, hw⟩
        obtain rfl := hw.symm
        clear hw
        go_wp2_with fail
        go_at_call 46
        refine HA2.out.mono ?_
        rintro e w1 ⟨rfl, hw⟩
        obtain rfl := hw.symm
        clear hw
        go_wp2_with (at_builtin; refine wpList_append_run rfl _ _ _ rfl rfl rfl hrun ?_)
        obtain ⟨e1, e2, e3⟩ := HN.out
        refine ⟨⟨k + 1, c2, by omega, by go_num, rfl, e1.symm, ?_, HB.out⟩, by simp [intOf]; omega⟩
        have := HO.out
        rw [List.range_succ, List.map_append, List.map_cons, List.map_nil, e2]
        exact this
    · have hcc0 : cc = 0 := by omega
      have g1 : ¬ (k : Int) < la := by omega
      have g2 : ¬ (k : Int) < lb := by omega
      have g3 : ¬ (0 : Int) < cc := by omega
      have htr := trim_any wr (sl_of_row' hown)
      rw [hcc0] at hcc
      rw [dsum_done xs ys k (by have := H.out.2.2.2.2.1; omega) (by have := H.out.2.2.2.2.2; omega) hcc.out] at htr
      have HT := Lib.hid htr
      clear htr hown hcc hnext hnew hend hat hat2 hx hy hc1 hcont hcc0
      go_wp2_with (go_at_call 33; refine HT.out.mono ?_; rintro e w' ⟨⟨r, rfl, hr⟩, hw⟩; obtain rfl := hw.symm; clear hw)
      go_ret
      exact ⟨_, rfl, hr, hb⟩
end Go.Proofs.Ytocmmabpebbdaaa
