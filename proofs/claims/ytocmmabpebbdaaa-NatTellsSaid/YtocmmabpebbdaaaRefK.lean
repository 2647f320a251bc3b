/- The document's own answer: Times. -/
import Derived.Test.YtocmmabpebbdaaaRefJ
namespace Go.Proofs.Ytocmmabpebbdaaa
open Go.RowKit

namespace Dig
/-- behind a row of a product nothing is carried -/
theorem row_carry {ws ys : List Nat} {x k : Nat} (hy : Wf ys) (hx : x < W16) (hk : k + (ys.length + 1) ≤ ws.length) (hz : val ws < W16 ^ (k + ys.length)) :
    mc x 0 (fun i => ws.getD (k + i) 0) (fun i => ys.getD i 0) (ys.length + 1) = 0 := by
  have e2 : sval (fun i => ys.getD i 0) (ys.length + 1) = val ys := by rw [sval_getD, List.take_of_length_le (by omega)]
  have e5 : sval (fun i => ws.getD (k + i) 0) (ys.length + 1) < W16 ^ ys.length := by
    have hw := val_window ws k (ys.length + 1) hk
    rcases Nat.lt_or_ge (sval (fun i => ws.getD (k + i) 0) (ys.length + 1)) (W16 ^ ys.length) with hlt | hge
    · exact hlt
    · have h1 : W16 ^ k * W16 ^ ys.length ≤ W16 ^ k * (sval (fun i => ws.getD (k + i) 0) (ys.length + 1) + W16 ^ (ys.length + 1) * val (ws.drop (k + (ys.length + 1)))) := Nat.mul_le_mul_left _ (by omega)
      rw [← Nat.pow_add] at h1
      omega
  have e6 : x * val ys ≤ (W16 - 1) * W16 ^ ys.length := Nat.mul_le_mul (by omega) (Nat.le_of_lt (val_lt hy))
  have e7 : (W16 - 1) * W16 ^ ys.length + W16 ^ ys.length = W16 ^ (ys.length + 1) := by
    rw [Nat.pow_succ, Nat.sub_mul, Nat.one_mul, Nat.mul_comm (W16 ^ ys.length) W16]
    have : W16 ^ ys.length ≤ W16 * W16 ^ ys.length := Nat.le_mul_of_pos_left _ W16_pos
    omega
  exact mc_zero (by rw [e2]; omega)
/-- where nothing is carried into the last digit of a row, that digit stays -/
theorem row_short {ws ys : List Nat} {x k : Nat} (h : Wf ws) (hk : k + (ys.length + 1) ≤ ws.length) (hc : mc x 0 (fun i => ws.getD (k + i) 0) (fun i => ys.getD i 0) ys.length = 0) :
    upd ws k ys.length (mn x 0 (fun i => ws.getD (k + i) 0) (fun i => ys.getD i 0)) = upd ws k (ys.length + 1) (mn x 0 (fun i => ws.getD (k + i) 0) (fun i => ys.getD i 0)) := by
  have e1 : mn x 0 (fun i => ws.getD (k + i) 0) (fun i => ys.getD i 0) ys.length = ws.getD (k + ys.length) 0 := by
    have h1 := h.getD (k + ys.length)
    rw [W16_eq] at h1
    have h2 : ys.getD ys.length 0 = 0 := by simp [List.getD]
    simp only [mn, hc, h2, Nat.mul_zero, Nat.add_zero]
    exact Nat.mod_eq_of_lt h1
  have hl := upd_length ws k ys.length (mn x 0 (fun i => ws.getD (k + i) 0) (fun i => ys.getD i 0)) (by omega)
  have e2 := upd_getD ws k ys.length (mn x 0 (fun i => ws.getD (k + i) 0) (fun i => ys.getD i 0)) (by omega)
  rw [← upd_set ws k ys.length _ (by omega), e1, ← e2]
  generalize upd ws k ys.length (mn x 0 (fun i => ws.getD (k + i) 0) (fun i => ys.getD i 0)) = l at *
  apply List.ext_getElem (by simp)
  intro j h1 h2
  rw [List.getElem_set]
  split
  · rename_i e; subst e; simp [List.getD, h1]
  · rfl
end Dig

set_option maxRecDepth 100000 in
set_option maxHeartbeats 1000000 in
theorem Times_any {v u : Value} {xs ys : List Nat} (w : World) (h : SlD w v xs) (h' : SlD w u ys) (hx : Dig.Wf xs) (hy : Dig.Wf ys) (hl : xs.length ≤ 1000) (hl' : ys.length ≤ 1000) :
    Calls Try.prog 25 #[v, u] w fun e w' => ∃ r, e = .returned r ∧ SlS (fun b => b < w.heap.size) .u32 w' r (Dig.toW (Dig.val xs * Dig.val ys)) ∧ Below w.heap.size w w' := by
  obtain ⟨a, cap, rfl⟩ : ∃ a cap, v = .slice a xs.length cap := let ⟨a, c, e, _⟩ := h; ⟨a, c, e⟩
  obtain ⟨b, bcap, rfl⟩ : ∃ a cap, u = .slice a ys.length cap := let ⟨a, c, e, _⟩ := h'; ⟨a, c, e⟩
  obtain ⟨la, hla⟩ : ∃ la, la = xs.length := ⟨_, rfl⟩
  obtain ⟨lb, hlb⟩ : ∃ lb, lb = ys.length := ⟨_, rfl⟩
  rw [← hla] at h hl ⊢
  rw [← hlb] at h' hl' ⊢
  obtain ⟨L, hL⟩ : ∃ L, L = la + lb + 1 := ⟨_, rfl⟩
  have hla64 : (la : Int) ≤ 1000 := by omega
  have hlb64 : (lb : Int) ≤ 1000 := by omega
  have hLi : (la : Int) + (lb : Int) + 1 = (L : Int) := by omega
  have hmk := fun W => run_make_digits L W (by omega)
  have H := Lib.hid (And.intro h (And.intro h' (And.intro hx (And.intro hy (And.intro hla (And.intro hlb hL))))))
  clear h h' hx hy hla hlb hl hl' hL
  go_enter Try.func25, Try.ntmps25
  go_wp2_with fail
  have k0 : Blk .u32 56 (w.alloc (.cells (wvs .u32 (List.replicate L 0)).toArray 56)) w.heap.size (List.replicate L 0) := Blk.new .u32 56 w _
  have hb0 : Below w.heap.size w (w.alloc (.cells (wvs .u32 (List.replicate L 0)).toArray 56)) := (Below.refl _ w).alloc (Nat.le_refl _) _
  generalize w.alloc (.cells (wvs .u32 (List.replicate L 0)).toArray 56) = W0 at *
  clear hmk
  go_loopw [6] (fun i wr => ∃ n : Nat, ∃ ws : List Nat, n ≤ la ∧ i = .int .i64 n ∧ Below w.heap.size w wr ∧ Hid (Blk .u32 56 wr w.heap.size ws ∧ ws.length = L ∧ Dig.Wf ws ∧ Dig.val ws = Dig.val (xs.take n) * Dig.val ys)) (fun i _ => la - (intOf i).toNat)
  case atStart => exact ⟨0, List.replicate L 0, Nat.zero_le _, rfl, hb0, k0, by simp, Dig.Wf.zeros _, by rw [Dig.val_zeros, List.take_zero]; simp [Dig.val]⟩
  case round =>
    obtain ⟨n, ws, hn, rfl, hb, hst⟩ := hrel
    by_cases hlt : n < la
    · have hni : (n : Int) < la := by omega
      have HB := Lib.hid hb
      clear hb k0 hb0
      obtain ⟨hblk, hwl, hww, hwv⟩ := hst.out
      have hnx : n < xs.length := by have := H.out; omega
      have hxw := H.out.2.2.1.getD n
      have htk := Dig.val_take_succ_any xs n
      have hz : Dig.val ws < Dig.W16 ^ (n + ys.length) := by
        rw [hwv, Nat.pow_add]
        have h1 := Dig.val_lt (H.out.2.2.1.take n)
        rw [List.length_take, Nat.min_eq_left (by omega)] at h1
        exact Nat.mul_lt_mul'' h1 (Dig.val_lt H.out.2.2.2.1)
      obtain ⟨x, hxe⟩ : ∃ x, x = xs.getD n 0 := ⟨_, rfl⟩
      rw [← hxe] at hxw htk
      have hroom : n + (ys.length + 1) ≤ ws.length := by have := H.out; omega
      have hrow := Dig.mul_row hww H.out.2.2.2.1 hxw rfl hroom hz
      have hcar := Dig.row_carry H.out.2.2.2.1 hxw hroom hz
      have hsho := Dig.row_short (x := x) hww hroom
      obtain ⟨a', cap', e', g1, g2, g3, g4⟩ := H.out.1
      rcases g4 with g4 | ⟨b0, off, rfl, _, hc⟩
      · subst g4; simp at hnx
      rw [← H.out.2.2.2.2.1] at e'
      cases e'
      have hca := hc n hnx
      rw [← hxe] at hca
      have HC := Lib.hid (fun (W : World) (hW : Below w.heap.size w W) => (hW.cell (p := ⟨b0, off + n, none⟩) (World.block_lt_of_cell? w _ hca)).trans hca)
      have HR := Lib.hid (And.intro hrow (And.intro hcar (And.intro hsho (And.intro htk (And.intro hxw (And.intro hroom hlt))))))
      have HK := Lib.hid (And.intro hblk (And.intro hwl (And.intro hww hwv)))
      clear hrow hcar hsho htk hxw hroom hblk hwl hww hwv hz hst hnx hxe hc hca g1 g2 g3 hlt hn
      go_wp2_with fail
      go_loopw [7, 8] (fun c kv wr2 => ∃ k cc : Nat, k ≤ lb + 1 ∧ kv = .int .i64 k ∧ c = .int .u64 cc ∧ Hid (cc = Dig.mc x 0 (fun i => ws.getD (n + i) 0) (fun i => ys.getD i 0) k) ∧ Below w.heap.size w wr2 ∧ Hid (Blk .u32 56 wr2 w.heap.size (Dig.upd ws n k (Dig.mn x 0 (fun i => ws.getD (n + i) 0) (fun i => ys.getD i 0))))) (fun _ kv _ => lb + 2 - (intOf kv).toNat)
      case atStart => exact ⟨0, 0, Nat.zero_le _, rfl, rfl, rfl, HB.out, by rw [Dig.upd_zero]; exact HK.out.1⟩
      case round =>
        obtain ⟨k, cc, hk, rfl, rfl, hcc, hb, hbk⟩ := hrel
        by_cases hcont : k < lb ∨ 0 < cc
        · have hklb : k ≤ lb := by
            rcases hcont with h | h
            · omega
            · rcases Nat.lt_or_ge lb k with h2 | h2
              · exfalso
                have e1 : k = ys.length + 1 := by have := H.out; omega
                have e2 := hcc.out
                rw [e1, HR.out.2.1] at e2
                omega
              · exact h2
          have hlenw := HR.out.2.2.2.2.2.1
          have hlby : lb = ys.length := H.out.2.2.2.2.2.1
          have hwL : ws.length = L := HK.out.2.1
          have hul := Dig.upd_length ws n k (Dig.mn x 0 (fun i => ws.getD (n + i) 0) (fun i => ys.getD i 0)) (by omega)
          have hcell := hbk.out.cell (n + k) (by omega)
          have hfree := hbk.out.free (n + k) none
          rw [Dig.upd_getD ws n k _ (by omega)] at hcell
          have hset := hbk.out.set (n + k) (Dig.mn x 0 (fun i => ws.getD (n + i) 0) (fun i => ys.getD i 0) k)
          rw [Dig.upd_set ws n k _ (by omega)] at hset
          have hca := HC.out wr hb
          have hat := fun (W : World) (hW : W.heap = wr.heap) => at_any k W ((H.out.2.1.below hb).heap hW)
          have ho := HK.out.2.2.1.getD (n + k)
          have hy := H.out.2.2.2.1.getD k
          have hx := HR.out.2.2.2.2.1
          have hc := Dig.mc_lt (m := x) (c := 0) (o := fun i => ws.getD (n + i) 0) (y := fun i => ys.getD i 0) hx Dig.W16_pos (fun _ => HK.out.2.2.1.getD _) (fun _ => H.out.2.2.2.1.getD _) k
          rw [← hcc.out] at hc
          have hnew : Dig.mn x 0 (fun i => ws.getD (n + i) 0) (fun i => ys.getD i 0) k = (ws.getD (n + k) 0 + x * ys.getD k 0 + cc) % 65536 := by rw [hcc.out]; rfl
          have hnext : Dig.mc x 0 (fun i => ws.getD (n + i) 0) (fun i => ys.getD i 0) (k + 1) = (ws.getD (n + k) 0 + x * ys.getD k 0 + cc) / 65536 := by rw [hcc.out]; rfl
          rw [hnew] at hset
          generalize ws.getD (n + k) 0 = o at *
          generalize ys.getD k 0 = y at *
          rw [Dig.W16_eq] at ho hy hx hc
          obtain ⟨P, hP⟩ : ∃ P, P = x * y := ⟨_, rfl⟩
          have hPb : P ≤ 65535 * 65535 := by rw [hP]; exact Nat.mul_le_mul (by omega) (by omega)
          rw [← hP] at hset hnext
          obtain ⟨t, ht⟩ : ∃ t, t = o + P + cc := ⟨_, rfl⟩
          rw [← ht] at hset hnext
          obtain ⟨nx, hnx⟩ : ∃ nx, nx = t % 65536 := ⟨_, rfl⟩
          obtain ⟨c2, hc2⟩ : ∃ c2, c2 = t / 65536 := ⟨_, rfl⟩
          rw [← hnx] at hset
          rw [← hc2] at hnext
          obtain ⟨j, hj⟩ : ∃ j, j = n + k := ⟨_, rfl⟩
          rw [← hj] at hset hcell hfree
          have hji : (n : Int) + (k : Int) = (j : Int) := by omega
          have hjL : (j : Int) < L := by omega
          have hwj : IntKind.i64.wrap (j : Int) = (j : Int) := IntWalk.i64_in _ (by omega)
          have hPi : (x : Int) * (y : Int) = (P : Int) := by rw [hP]; simp
          have hwo : IntKind.u64.wrap (o : Int) = (o : Int) := by rw [wrap_u64_nat, Nat.mod_eq_of_lt (by omega)]
          have hwx : IntKind.u64.wrap (x : Int) = (x : Int) := by rw [wrap_u64_nat, Nat.mod_eq_of_lt (by omega)]
          have hwy : IntKind.u64.wrap (y : Int) = (y : Int) := by rw [wrap_u64_nat, Nat.mod_eq_of_lt (by omega)]
          have hwP : IntKind.u64.wrap (P : Int) = (P : Int) := by rw [wrap_u64_nat, Nat.mod_eq_of_lt (by omega)]
          have hw4 : IntKind.u64.wrap ((o : Int) + (P : Int)) = (o : Int) + (P : Int) := by rw [show ((o : Int) + (P : Int)) = ((o + P : Nat) : Int) by simp, wrap_u64_nat, Nat.mod_eq_of_lt (by omega)]
          have hts : (o : Int) + (P : Int) + (cc : Int) = (t : Int) := by omega
          have hwt : IntKind.u64.wrap (t : Int) = (t : Int) := by rw [wrap_u64_nat, Nat.mod_eq_of_lt (by omega)]
          have hr1 : (t : Int).tmod 65536 = (nx : Int) := by rw [Int.tmod_eq_emod_of_nonneg (by omega)]; omega
          have hr2 : (t : Int) % 65536 = (nx : Int) := by omega
          have hr3 : (t : Int).tdiv 65536 = (c2 : Int) := by rw [Int.tdiv_eq_ediv_of_nonneg (by omega)]; omega
          have hr4 : (t : Int) / 65536 = (c2 : Int) := by omega
          have hw5 : IntKind.u32.wrap (nx : Int) = (nx : Int) := by rw [wrap_u32_nat, Nat.mod_eq_of_lt (by omega)]
          have hw6 : (nx : Int) % 4294967296 = (nx : Int) := by omega
          have hw7 : IntKind.u64.wrap (c2 : Int) = (c2 : Int) := by rw [wrap_u64_nat, Nat.mod_eq_of_lt (by omega)]
          have hw8 : IntKind.u64.wrap (nx : Int) = (nx : Int) := by rw [wrap_u64_nat, Nat.mod_eq_of_lt (by omega)]
          have hcond : (k : Int) < lb ∨ (¬ (k : Int) < lb ∧ (0 : Int) < cc) := by omega
          have hkb : (k : Int) ≤ lb := by omega
          have HA := Lib.hid hat
          have HS := Lib.hid hset
          have HN := Lib.hid (And.intro hnext hklb)
          have HB2 := Lib.hid hb
          clear hat hset hnext hnew hklb hb hbk hcc hcont hk ho hy hx hc hP hPb ht hnx hc2 hj hul hlenw hlby hwL
          rcases hcond with q1 | ⟨q1, q2⟩
          all_goals
            go_wp2_with fail
            go_still_tail 20, (by kernel_rfl)
            repeat still_step
            still_call (HA.out _ rfl)
            repeat still_step
            refine wpStill_nil ?_
            change wpList _ _ _ _ _ wr.drew
            go_wp2
            obtain ⟨hnext, hklb⟩ := HN.out
            exact ⟨⟨k + 1, c2, by omega, by go_num, rfl, hnext.symm, (HB2.out.drew.setCell (p := ⟨w.heap.size, j, none⟩) (Nat.le_refl _) _), HS.out⟩, by simp [intOf]; omega⟩
        · have hcc0 : cc = 0 := by omega
          have g1 : ¬ (k : Int) < lb := by omega
          have g2 : ¬ (0 : Int) < cc := by omega
          have hfin : Dig.upd ws n k (Dig.mn x 0 (fun i => ws.getD (n + i) 0) (fun i => ys.getD i 0)) = Dig.upd ws n (ys.length + 1) (Dig.mn x 0 (fun i => ws.getD (n + i) 0) (fun i => ys.getD i 0)) := by
            have e2 := hcc.out
            rw [hcc0] at e2
            have e3 : k = ys.length ∨ k = ys.length + 1 := by have := H.out; omega
            rcases e3 with e3 | e3
            · rw [e3] at e2 ⊢; exact HR.out.2.2.1 e2.symm
            · rw [e3]
          have hbk2 := hbk.out
          rw [hfin] at hbk2
          have HF := Lib.hid hbk2
          have HB2 := Lib.hid hb
          clear hbk hbk2 hfin hb hcc hcc0 hcont hk
          go_wp2_with fail
          obtain ⟨r1, r2, r3, r4, r5, r6, r7⟩ := HR.out
          refine ⟨⟨n + 1, _, by omega, by go_num, HB2.out, HF.out, ?_, r1.1, ?_⟩, by simp [intOf]; omega⟩
          · rw [Dig.upd_length _ _ _ _ (by omega)]; exact HK.out.2.1
          · rw [r1.2, HK.out.2.2.2, r4, Nat.add_mul, Nat.mul_assoc]
    · have hk' : n = la := by omega
      have g1 : ¬ (n : Int) < la := by omega
      obtain ⟨hblk, hwl, hww, hwv⟩ := hst.out
      have htr := trim_any wr (hblk.slN hwl (by have := H.out; omega) (S := fun b => b < w.heap.size) (fun h => by omega))
      rw [hk', H.out.2.2.2.2.1, List.take_length] at hwv
      rw [← dnorm_same, ← Dig.toW_val hww, hwv] at htr
      have HT := Lib.hid htr
      clear htr hblk hst hwl hww hwv hn hk' k0 hb0
      go_wp2_with (go_at_call 33; refine HT.out.mono ?_; rintro e w' ⟨⟨r, rfl, hr⟩, hw⟩; obtain rfl := hw.symm; clear hw)
      go_ret
      exact ⟨_, rfl, hr, hb⟩
end Go.Proofs.Ytocmmabpebbdaaa
