/- The document's own answer: Minus. -/
import Derived.Test.YtocmmabpebbdaaaRefB
import Derived.StillTailTactics
namespace Go.Proofs.Ytocmmabpebbdaaa
open Go.RowKit

theorem ddiff_done (xs ys : List Nat) (hx : Dig.Wf xs) (hy : Dig.Wf ys) (hle : Dig.val ys ≤ Dig.val xs) :
    norm ((List.range xs.length).map (Dig.bn (fun i => xs.getD i 0) (fun i => ys.getD i 0))) = Dig.toW (Dig.val xs - Dig.val ys) := by
  have e1 : Dig.sval (fun i => xs.getD i 0) xs.length = Dig.val xs := by rw [Dig.sval_getD, List.take_length]
  have e2 : Dig.sval (fun i => ys.getD i 0) xs.length = Dig.val ys := by rw [Dig.sval_getD, Dig.val_take_of_lt (Nat.lt_of_le_of_lt hle (Dig.val_lt hx))]
  have e := Dig.bn_val_room (k := xs.length) (fun i => hx.getD i) (fun i => hy.getD i) (by rw [e1, e2]; exact hle)
  rw [e1, e2, ← Dig.val_range_map] at e
  have hw : Dig.Wf ((List.range xs.length).map (Dig.bn (fun i => xs.getD i 0) (fun i => ys.getD i 0))) := by
    intro x hx
    obtain ⟨i, _, rfl⟩ := List.mem_map.1 hx
    exact Dig.bn_lt _ _ _
  rw [← e, Dig.toW_val hw, dnorm_same]

set_option maxRecDepth 100000 in
set_option maxHeartbeats 1000000 in
theorem Minus_any {v u : Value} {xs ys : List Nat} (w : World) (h : SlD w v xs) (h' : SlD w u ys) (hx : Dig.Wf xs) (hy : Dig.Wf ys) (hl : xs.length ≤ 10000) (hle : Dig.val ys ≤ Dig.val xs) :
    Calls Try.prog 27 #[v, u] w fun e w' => ∃ r, e = .returned r ∧ SlS (fun b => b < w.heap.size) .u32 w' r (Dig.toW (Dig.val xs - Dig.val ys)) ∧ Below w.heap.size w w' := by
  obtain ⟨a, cap, rfl⟩ : ∃ a cap, v = .slice a xs.length cap := let ⟨a, c, e, _⟩ := h; ⟨a, c, e⟩
  obtain ⟨b, lb, bcap, rfl⟩ := h'.shape
  obtain ⟨la, hla⟩ : ∃ la, la = xs.length := ⟨_, rfl⟩
  rw [← hla] at h hl ⊢
  have H := Lib.hid (And.intro h (And.intro h' (And.intro hx (And.intro hy (And.intro hla hle)))))
  clear h h' hx hy hla hle
  go_enter Try.func27, Try.ntmps27
  go_wp2_with fail
  go_loopw [5, 6, 7] (fun v c i wr => ∃ k cc : Nat, k ≤ la ∧ i = .int .i64 k ∧ c = .int .u32 cc ∧ Hid (cc = Dig.bc (fun i => xs.getD i 0) (fun i => ys.getD i 0) k) ∧ wr.ownsRow w.heap.size 56 1 v k (wvs .u32 ((List.range k).map (Dig.bn (fun i => xs.getD i 0) (fun i => ys.getD i 0)))) ∧ Below w.heap.size w wr) (fun _ _ i _ => la - (intOf i).toNat)
  case atStart => exact ⟨0, 0, Nat.zero_le _, rfl, rfl, rfl, World.ownsRow_nil _ _ _ _, Below.refl _ _⟩
  case round =>
    obtain ⟨k, cc, hk, rfl, rfl, hcc, hown, hb⟩ := hrel
    by_cases hlt : k < la
    · have hx := H.out.2.2.1.getD k
      have hy := H.out.2.2.2.1.getD k
      have hc1 : cc ≤ 1 := by rw [hcc.out]; exact Dig.bc_le_one _ _ k
      rw [Dig.W16_eq] at hx hy
      have hat := fun (W : World) (hW : W.heap = wr.heap) => at_any k W ((H.out.2.1.below hb).heap hW)
      obtain ⟨a', cap', e', g1, g2, g3, g4⟩ := H.out.1.below hb
      have hkl : k < xs.length := by have := H.out.2.2.2.2.1; omega
      rcases g4 with g4 | ⟨b0, off, rfl, _, hc⟩
      · subst g4; simp at hkl
      rw [← H.out.2.2.2.2.1] at e'
      cases e'
      have hcell := hc k hkl
      have hnext : Dig.bc (fun i => xs.getD i 0) (fun i => ys.getD i 0) (k + 1) = 1 - (65536 + xs.getD k 0 - ys.getD k 0 - cc) / 65536 := by
        rw [hcc.out] at hc1 ⊢
        simp only [Dig.bc, Dig.borrow]
        split <;> omega
      have hnew : Dig.bn (fun i => xs.getD i 0) (fun i => ys.getD i 0) k = (65536 + xs.getD k 0 - ys.getD k 0 - cc) % 65536 := by
        rw [hcc.out]; simp only [Dig.bn]; omega
      generalize xs.getD k 0 = x at *
      generalize ys.getD k 0 = y at *
      obtain ⟨s, hs⟩ : ∃ s, s = 65536 + x - y - cc := ⟨_, rfl⟩
      rw [← hs] at hnext hnew
      have hs2 : s ≤ 131071 := by omega
      obtain ⟨nx, hnx⟩ : ∃ nx, nx = s % 65536 := ⟨_, rfl⟩
      obtain ⟨c2, hc2⟩ : ∃ c2, c2 = 1 - s / 65536 := ⟨_, rfl⟩
      rw [← hnx] at hnew
      rw [← hc2] at hnext
      have hap := fun (W : World) (hW : W.heap = wr.heap) => append1 (W := W) Try.underlying26 info_u32 (by omega) nx (show W.ownsRow w.heap.size 56 1 u5 k _ from by
        obtain ⟨q1, q2⟩ := hown
        refine ⟨q1, q2.imp id ?_⟩
        rintro ⟨g, c, cur, r1, r2, r3, r4⟩
        exact ⟨g, c, cur, r1, r2, by rw [hW]; exact r3, r4⟩) (by rw [hW]; exact hb.size) (by omega)
      have hs1 : (65536 : Int) + (x : Int) - (y : Int) - (cc : Int) = (s : Int) := by omega
      have hw1 : IntKind.u32.wrap (65536 + (x : Int)) = 65536 + (x : Int) := by
        rw [show (65536 + (x : Int)) = ((65536 + x : Nat) : Int) by simp, wrap_u32_nat, Nat.mod_eq_of_lt (by omega)]
      have hw2 : IntKind.u32.wrap (65536 + (x : Int) - (y : Int)) = 65536 + (x : Int) - (y : Int) := by
        rw [show (65536 + (x : Int) - (y : Int)) = ((65536 + x - y : Nat) : Int) by omega, wrap_u32_nat, Nat.mod_eq_of_lt (by omega)]
      have hw3 : IntKind.u32.wrap (s : Int) = (s : Int) := by rw [wrap_u32_nat, Nat.mod_eq_of_lt (by omega)]
      have hr1 : (s : Int).tmod 65536 = (nx : Int) := by rw [Int.tmod_eq_emod_of_nonneg (by omega)]; omega
      have hr2 : (s : Int) % 65536 = (nx : Int) := by omega
      have hr3 : (s : Int).tdiv 65536 = (s : Int) / 65536 := by rw [Int.tdiv_eq_ediv_of_nonneg (by omega)]
      have hr4 : 1 - (s : Int) / 65536 = (c2 : Int) := by omega
      have hw4 : IntKind.u32.wrap (c2 : Int) = (c2 : Int) := by rw [wrap_u32_nat, Nat.mod_eq_of_lt (by omega)]
      have hw5 : IntKind.u32.wrap (nx : Int) = (nx : Int) := by rw [wrap_u32_nat, Nat.mod_eq_of_lt (by omega)]
      have hw6 : IntKind.u32.wrap ((s : Int) / 65536) = (s : Int) / 65536 := by rw [show (s : Int) / 65536 = ((s / 65536 : Nat) : Int) by omega, wrap_u32_nat, Nat.mod_eq_of_lt (by omega)]
      have hk64 : (k : Int) < la := by omega
      have hl64 : (la : Int) ≤ 10000 := by omega
      have HA := Lib.hid hat
      have HN := Lib.hid (And.intro hnext (And.intro hnew hlt))
      have HO := Lib.hid hap
      clear hat hnext hnew hown hap hnx hc2 hcc hk hx hy hc1 hl hs hlt hc g1 g2 g3
      go_wp2_with fail
      go_still_tail 10, (by kernel_rfl)
      repeat still_step
      still_call (HA.out _ rfl)
      repeat still_step
      refine wpStill_nil ?_
      obtain ⟨v', w', hrun, hown', hb'⟩ := HO.out wr.drew rfl
      have HOw := Lib.hid hown'
      have HB := Lib.hid ((hb.drew).trans hb')
      change wpList _ _ _ _ _ wr.drew
      clear hown' hb' HO HA
      go_wp2_with (at_builtin; refine wpList_append_run rfl _ _ _ rfl rfl rfl hrun ?_)
      obtain ⟨e1, e2, e3⟩ := HN.out
      refine ⟨⟨k + 1, c2, by omega, by go_num, rfl, e1.symm, ?_, HB.out⟩, by simp [intOf]; omega⟩
      have := HOw.out
      rw [List.range_succ, List.map_append, List.map_cons, List.map_nil, e2]
      exact this
    · have hk' : k = la := by omega
      have g1 : ¬ (k : Int) < la := by omega
      have htr := trim_any wr (sl_of_row' hown)
      rw [hk', H.out.2.2.2.2.1, ddiff_done xs ys H.out.2.2.1 H.out.2.2.2.1 H.out.2.2.2.2.2] at htr
      have HT := Lib.hid htr
      clear htr hown hcc hk hk'
      go_wp2_with (go_at_call 33; refine HT.out.mono ?_; rintro e w' ⟨⟨r, rfl, hr⟩, hw⟩; obtain rfl := hw.symm; clear hw)
      go_ret
      exact ⟨_, rfl, hr, hb⟩
end Go.Proofs.Ytocmmabpebbdaaa
