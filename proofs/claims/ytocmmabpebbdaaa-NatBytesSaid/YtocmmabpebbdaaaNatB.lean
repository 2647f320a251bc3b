/- Carries: the closures of addTo, takeFrom, addMultiple, double; each. -/
import Derived.Test.YtocmmabpebbdaaaNatA
import Derived.StillTailTactics
import Derived.Test.YtocmmabpebbdaaaCarry
namespace Go.Proofs.Ytocmmabpebbdaaa
open Go.RowKit

theorem run_Add64 (x y c : Nat) (hc : c ≤ 1) (w : World) :
    (callFunc 49 #[.int .u64 x, .int .u64 y, .int .u64 c]).run Try.prog w =
      .ok (.value (.tuple #[.int .u64 (((x + y + c) % 18446744073709551616 : Nat) : Int), .int .u64 (((x + y + c) / 18446744073709551616 : Nat) : Int)])) w := by
  rw [run_callFunc_extern Try.func49 (by kernel_rfl) (by kernel_rfl) (by kernel_rfl) (e := add64Entry) (by kernel_rfl), run_add64 x y c (by omega) (by omega) (by omega) (by omega)]
  simp only [Result.andThen]
  congr 5 <;> omega

theorem addTo1_any {S : Nat → Prop} {v : Value} {ys : List Nat} (i o c : Nat) (pb pc : Addr) (w : World)
    (cb : w.cell? pb = some v) (h : SlS S .u64 w v ys) (cc : w.cell? pc = some (.int .u64 c)) (fc : w.frozen? pc = false) (hc : c ≤ 1) :
    Calls Try.prog 48 #[.int .i64 i, .int .u64 o, .pointer (some pb), .pointer (some pc)] w fun e w' =>
      e = .returned (.int .u64 (((o + ys.getD i 0 + c) % 18446744073709551616 : Nat) : Int)) ∧ ∃ q, w' = (w.setCell pc (.int .u64 (((o + ys.getD i 0 + c) / 18446744073709551616 : Nat) : Int))).drewN q := by
  have hadd := run_Add64 o (ys.getD i 0) c hc
  obtain ⟨a, cap, rfl, hlc, hcap, hnil, hr⟩ := h
  have hw := fun (w0 : World) (hw0 : w0.heap = w.heap) => word_any i w0 (S := S) (v := .slice a ys.length cap) ⟨a, cap, rfl, hlc, hcap, hnil, hr.heap hw0⟩
  generalize ys.getD i 0 = y at *
  have HW := Lib.hid hw
  clear hw
  go_enter Try.func48, Try.ntmps48
  go_wp2_with fail
  go_still_tail 10, (by kernel_rfl)
  still_call (HW.out _ rfl)
  repeat still_step
  refine wpStill_nil ?_
  change wpList _ _ _ _ _ w.drew
  go_wp2
  go_ret
  exact ⟨rfl, 1, rfl⟩

set_option maxHeartbeats 400000 in
/-- 'each', of a closure that turns one cell of its own -/
theorem each_any (fn : FuncId) (caps : Array Value) (hcall : ∀ args w, (callFunc fn args).run Try.prog w = .ok (.enter fn args) w)
    (bw off n cap : Nat) (pc : Addr) (ws : List Nat) (nw cs : Nat → Nat) (w : World) (hn : off + n ≤ ws.length) (hbig : n ≤ 9223372036854775807) (hpc : pc.block ≠ bw)
    (hblk : Blk .u64 41 w bw ws) (hcs : w.cell? pc = some (.int .u64 ((cs 0 : Nat) : Int))) (hfr : w.frozen? pc = false)
    (hstep : ∀ i, i < n → ∀ W, But2 bw pc.block w W → W.cell? pc = some (.int .u64 ((cs i : Nat) : Int)) → W.frozen? pc = false →
      Calls Try.prog fn (#[.int .i64 i, .int .u64 ((ws.getD (off + i) 0 : Nat) : Int)] ++ caps) W fun e W' => e = .returned (.int .u64 ((nw i : Nat) : Int)) ∧ ∃ q, W' = (W.setCell pc (.int .u64 ((cs (i + 1) : Nat) : Int))).drewN q) :
    Calls Try.prog 47 #[.slice (some ⟨bw, off, none⟩) n cap, .func (.func fn) #[] caps] w fun e w' =>
      e = .returned (.tuple #[]) ∧ But2 bw pc.block w w' ∧ Blk .u64 41 w' bw (upd ws off n nw) := by
  have HS := Lib.hid hstep
  have HL := Lib.hid hn
  clear hstep hn
  go_enter Try.func47, Try.ntmps47
  go_wp2
  go_loopw [8] (fun i wr => ∃ k : Nat, k ≤ n ∧ i = .int .i64 k ∧ But2 bw pc.block w wr ∧ Blk .u64 41 wr bw (upd ws off k nw) ∧ wr.cell? pc = some (.int .u64 ((cs k : Nat) : Int)) ∧ wr.frozen? pc = false) (fun i _ => n - (intOf i).toNat)
  case atStart => exact ⟨0, Nat.zero_le _, rfl, But2.refl _ _ _, by rw [upd_zero]; exact hblk, hcs, hfr⟩
  case round =>
    obtain ⟨k, hk, rfl, hbut, hb, hc, hf⟩ := hrel
    by_cases hlt : k < n
    · have hl := HL.out
      have hlen := upd_length ws off k nw (by omega)
      have hcell := hb.cell (off + k) (by omega)
      rw [upd_getD ws off k nw (by omega)] at hcell
      have hcal := HS.out k hlt wr hbut hc hf
      generalize hx : ws.getD (off + k) 0 = x at *
      have Hc := Lib.hid hcal
      have Hb := Lib.hid hb
      have Hu := Lib.hid hbut
      clear hcal hb hbut hx hlen
      go_wp2_with fail
      refine Hc.out.mono ?_
      rintro e W1 ⟨rfl, q, hW1⟩
      have hb1 : Blk .u64 41 W1 bw (upd ws off k nw) := by
        rw [hW1]
        exact Hb.out.carry (Below.heap_setCell _ _ _ _ (fun e => hpc e.symm))
      have hu1 : But2 bw pc.block w W1 := by rw [hW1]; exact (Hu.out.setCell (.inr rfl) _).drewN q
      have hc1 : W1.cell? pc = some (.int .u64 ((cs (k + 1) : Nat) : Int)) := by rw [hW1]; exact World.cell?_setCell_same' _ _ _ (by rw [hc]; rfl)
      have hf1 : W1.frozen? pc = false := by rw [hW1, World.frozen?_drewN, World.frozen?_setCell]; exact hf
      have hcell1 := hb1.cell (off + k) (by rw [upd_length ws off k nw (by omega)]; omega)
      have hfree1 := hb1.free (off + k) none
      have Hb1 := Lib.hid hb1
      have Hu1 := Lib.hid hu1
      clear hW1 hb1 hu1 hcell hc hf Hb Hu Hc
      go_wp2
      go_roundw
      case rel =>
        refine ⟨k + 1, by omega, by go_num, Hu1.out.setCell (.inl rfl) _, ?_, ?_, ?_⟩
        · rw [← upd_set ws off k nw (by omega)]; exact Hb1.out.set (off + k) (nw k)
        · exact cell_set_far (fun e => hpc e.symm) hc1
        · rw [World.frozen?_setCell]; exact hf1
      case measure => simp [intOf]; omega
    · have hk' : n = k := by omega
      subst hk'
      go_wp2
      go_end0
      exact ⟨rfl, hbut, hb⟩
end Go.Proofs.Ytocmmabpebbdaaa
