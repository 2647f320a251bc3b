/- addTo, takeFrom, addMultiple, double: what they make of a block of words. -/
import Derived.Test.YtocmmabpebbdaaaNatC
namespace Go.Proofs.Ytocmmabpebbdaaa
open Go.RowKit

theorem enter_addTo1 : ∀ args w, (callFunc 48 args).run Try.prog w = .ok (.enter 48 args) w := fun _ _ => by kernel_rfl
theorem enter_takeFrom1 : ∀ args w, (callFunc 50 args).run Try.prog w = .ok (.enter 50 args) w := fun _ _ => by kernel_rfl
theorem enter_addMultiple1 : ∀ args w, (callFunc 52 args).run Try.prog w = .ok (.enter 52 args) w := fun _ _ => by kernel_rfl
theorem enter_double1 : ∀ args w, (callFunc 55 args).run Try.prog w = .ok (.enter 55 args) w := fun _ _ => by kernel_rfl

theorem But.of_but2 {b c : Nat} {w w1 w' : World} (h0 : Below w.heap.size w w1) (h : But2 b c w1 w') (hc : w.heap.size ≤ c) : But b w w' :=
  ⟨h.os.trans h0.os, h.tape.trans h0.tape, h.output.trans h0.output, Nat.le_trans h0.size h.size, fun k hk hb => (h.block k (Nat.lt_of_lt_of_le hk h0.size) hb (by omega)).trans (h0.block k hk)⟩

theorem SlS.but2 {b c : Nat} {k : IntKind} {w w' : World} {v : Value} {xs : List Nat} (h : SlS (fun i => i = b ∨ i = c) k w v xs) (hb : But2 b c w w') : SlS (fun i => i = b ∨ i = c) k w' v xs :=
  h.carry fun i hi hs => ⟨hb.block i hi (fun e => hs (.inl e)) (fun e => hs (.inr e)), hs⟩

set_option maxHeartbeats 400000 in
theorem addTo_any {v : Value} {ys ws : List Nat} (bw off n cap : Nat) (w : World) (hn : off + n ≤ ws.length) (hbig : n ≤ 9223372036854775807)
    (hblk : Blk .u64 41 w bw ws) (hws : Wf ws) (hys : Wf ys) (h : SlS (fun i => i = bw) .u64 w v ys) :
    Calls Try.prog 35 #[.slice (some ⟨bw, off, none⟩) n cap, v] w fun e w' =>
      e = .returned (.tuple #[]) ∧ But bw w w' ∧ Blk .u64 41 w' bw (upd ws off n (mn 1 0 (fun i => ws.getD (off + i) 0) (fun i => ys.getD i 0))) := by
  have hlt := hblk.lt
  obtain ⟨a, vcap, rfl⟩ : ∃ a vcap, v = .slice a ys.length vcap := let ⟨a, c, e, _⟩ := h; ⟨a, c, e⟩
  have hstep : ∀ i, i < n → ∀ W, But2 bw (w.heap.size + 1) ((w.alloc (.cells #[.slice a ys.length vcap] 22)).alloc (.cells #[.int .u64 0] 41)) W → W.cell? ⟨w.heap.size + 1, 0, none⟩ = some (.int .u64 ((mc 1 0 (fun i => ws.getD (off + i) 0) (fun i => ys.getD i 0) i : Nat) : Int)) → W.frozen? ⟨w.heap.size + 1, 0, none⟩ = false →
      Calls Try.prog 48 (#[.int .i64 i, .int .u64 ((ws.getD (off + i) 0 : Nat) : Int)] ++ #[.pointer (some ⟨w.heap.size, 0, none⟩), .pointer (some ⟨w.heap.size + 1, 0, none⟩)]) W fun e W' =>
        e = .returned (.int .u64 ((mn 1 0 (fun i => ws.getD (off + i) 0) (fun i => ys.getD i 0) i : Nat) : Int)) ∧ ∃ q, W' = (W.setCell ⟨w.heap.size + 1, 0, none⟩ (.int .u64 ((mc 1 0 (fun i => ws.getD (off + i) 0) (fun i => ys.getD i 0) (i + 1) : Nat) : Int))).drewN q := by
    intro i hi W hb hc hf
    have hb0 : Below w.heap.size w ((w.alloc (.cells #[.slice a ys.length vcap] 22)).alloc (.cells #[.int .u64 0] 41)) := ((Below.refl _ w).alloc (Nat.le_refl _) _).alloc (by simp) _
    have hs : SlS (fun i => i = bw ∨ i = w.heap.size + 1) .u64 W (.slice a ys.length vcap) ys := by
      refine h.carry fun j hj hs => ⟨(hb.block j (Nat.lt_of_lt_of_le hj hb0.size) hs (by omega)).trans (hb0.block j hj), by omega⟩
    have cb : W.cell? ⟨w.heap.size, 0, none⟩ = some (.slice a ys.length vcap) := hb.cell (by simp) (by simp; omega) (by simp)
    have := addTo1_any i (ws.getD (off + i) 0) (mc 1 0 (fun i => ws.getD (off + i) 0) (fun i => ys.getD i 0) i) ⟨w.heap.size, 0, none⟩ ⟨w.heap.size + 1, 0, none⟩ W cb hs hc hf (mc_le_one (Nat.zero_le _) (fun _ => hws.getD _) (fun _ => hys.getD _) i)
    simpa [mn, mc] using this
  have HS := Lib.hid hstep
  have HB := Lib.hid hblk
  clear hstep hblk h
  go_enter Try.func35, Try.ntmps35
  go_wp2_with fail
  refine (each_any 48 _ enter_addTo1 bw off n cap ⟨w.heap.size + 1, 0, none⟩ ws _ (mc 1 0 (fun i => ws.getD (off + i) 0) (fun i => ys.getD i 0)) _ hn hbig (by simp; omega) ((HB.out.alloc _).alloc _) (by simp [mc]) (by simp) HS.out).mono ?_
  rintro e W' ⟨rfl, hb, hk⟩
  have Hb := Lib.hid hb
  have Hk := Lib.hid hk
  clear hb hk
  go_wp2
  go_end0
  exact ⟨rfl, But.of_but2 (((Below.refl _ w).alloc (Nat.le_refl _) _).alloc (by simp) _) Hb.out (by simp), Hk.out⟩

set_option maxHeartbeats 400000 in
theorem takeFrom_any {v : Value} {ys ws : List Nat} (bw off n cap : Nat) (w : World) (hn : off + n ≤ ws.length) (hbig : n ≤ 9223372036854775807)
    (hblk : Blk .u64 41 w bw ws) (h : SlS (fun i => i = bw) .u64 w v ys) :
    Calls Try.prog 37 #[.slice (some ⟨bw, off, none⟩) n cap, v] w fun e w' =>
      e = .returned (.tuple #[]) ∧ But bw w w' ∧ Blk .u64 41 w' bw (upd ws off n (bn (fun i => ws.getD (off + i) 0) (fun i => ys.getD i 0))) := by
  have hlt := hblk.lt
  obtain ⟨a, vcap, rfl⟩ : ∃ a vcap, v = .slice a ys.length vcap := let ⟨a, c, e, _⟩ := h; ⟨a, c, e⟩
  have hstep : ∀ i, i < n → ∀ W, But2 bw (w.heap.size + 1) ((w.alloc (.cells #[.slice a ys.length vcap] 22)).alloc (.cells #[.int .u64 0] 41)) W → W.cell? ⟨w.heap.size + 1, 0, none⟩ = some (.int .u64 ((bc (fun i => ws.getD (off + i) 0) (fun i => ys.getD i 0) i : Nat) : Int)) → W.frozen? ⟨w.heap.size + 1, 0, none⟩ = false →
      Calls Try.prog 50 (#[.int .i64 i, .int .u64 ((ws.getD (off + i) 0 : Nat) : Int)] ++ #[.pointer (some ⟨w.heap.size, 0, none⟩), .pointer (some ⟨w.heap.size + 1, 0, none⟩)]) W fun e W' =>
        e = .returned (.int .u64 ((bn (fun i => ws.getD (off + i) 0) (fun i => ys.getD i 0) i : Nat) : Int)) ∧ ∃ q, W' = (W.setCell ⟨w.heap.size + 1, 0, none⟩ (.int .u64 ((bc (fun i => ws.getD (off + i) 0) (fun i => ys.getD i 0) (i + 1) : Nat) : Int))).drewN q := by
    intro i hi W hb hc hf
    have hb0 : Below w.heap.size w ((w.alloc (.cells #[.slice a ys.length vcap] 22)).alloc (.cells #[.int .u64 0] 41)) := ((Below.refl _ w).alloc (Nat.le_refl _) _).alloc (by simp) _
    have hs : SlS (fun i => i = bw ∨ i = w.heap.size + 1) .u64 W (.slice a ys.length vcap) ys := by
      refine h.carry fun j hj hs => ⟨(hb.block j (Nat.lt_of_lt_of_le hj hb0.size) hs (by omega)).trans (hb0.block j hj), by omega⟩
    have cb : W.cell? ⟨w.heap.size, 0, none⟩ = some (.slice a ys.length vcap) := hb.cell (by simp) (by simp; omega) (by simp)
    have := takeFrom1_any i (ws.getD (off + i) 0) (bc (fun i => ws.getD (off + i) 0) (fun i => ys.getD i 0) i) ⟨w.heap.size, 0, none⟩ ⟨w.heap.size + 1, 0, none⟩ W cb hs hc hf (bc_le_one _ _ i)
    simpa [bn, bc] using this
  have HS := Lib.hid hstep
  have HB := Lib.hid hblk
  clear hstep hblk h
  go_enter Try.func37, Try.ntmps37
  go_wp2_with fail
  refine (each_any 50 _ enter_takeFrom1 bw off n cap ⟨w.heap.size + 1, 0, none⟩ ws _ (bc (fun i => ws.getD (off + i) 0) (fun i => ys.getD i 0)) _ hn hbig (by simp; omega) ((HB.out.alloc _).alloc _) (by simp [bc]) (by simp) HS.out).mono ?_
  rintro e W' ⟨rfl, hb, hk⟩
  have Hb := Lib.hid hb
  have Hk := Lib.hid hk
  clear hb hk
  go_wp2
  go_end0
  exact ⟨rfl, But.of_but2 (((Below.refl _ w).alloc (Nat.le_refl _) _).alloc (by simp) _) Hb.out (by simp), Hk.out⟩

set_option maxHeartbeats 400000 in
theorem addMultiple_any {v : Value} {ys ws : List Nat} (bw off n cap x : Nat) (w : World) (hn : off + n ≤ ws.length) (hbig : n ≤ 9223372036854775807)
    (hblk : Blk .u64 41 w bw ws) (hws : Wf ws) (hys : Wf ys) (hx : x < W64) (h : SlS (fun i => i = bw) .u64 w v ys) :
    Calls Try.prog 38 #[.slice (some ⟨bw, off, none⟩) n cap, v, .int .u64 x] w fun e w' =>
      e = .returned (.tuple #[]) ∧ But bw w w' ∧ Blk .u64 41 w' bw (upd ws off n (mn x 0 (fun i => ws.getD (off + i) 0) (fun i => ys.getD i 0))) := by
  have hlt := hblk.lt
  obtain ⟨a, vcap, rfl⟩ : ∃ a vcap, v = .slice a ys.length vcap := let ⟨a, c, e, _⟩ := h; ⟨a, c, e⟩
  have hstep : ∀ i, i < n → ∀ W, But2 bw (w.heap.size + 1 + 1) (((w.alloc (.cells #[.slice a ys.length vcap] 22)).alloc (.cells #[.int .u64 x] 41)).alloc (.cells #[.int .u64 0] 41)) W → W.cell? ⟨w.heap.size + 1 + 1, 0, none⟩ = some (.int .u64 ((mc x 0 (fun i => ws.getD (off + i) 0) (fun i => ys.getD i 0) i : Nat) : Int)) → W.frozen? ⟨w.heap.size + 1 + 1, 0, none⟩ = false →
      Calls Try.prog 52 (#[.int .i64 i, .int .u64 ((ws.getD (off + i) 0 : Nat) : Int)] ++ #[.pointer (some ⟨w.heap.size + 1, 0, none⟩), .pointer (some ⟨w.heap.size, 0, none⟩), .pointer (some ⟨w.heap.size + 1 + 1, 0, none⟩)]) W fun e W' =>
        e = .returned (.int .u64 ((mn x 0 (fun i => ws.getD (off + i) 0) (fun i => ys.getD i 0) i : Nat) : Int)) ∧ ∃ q, W' = (W.setCell ⟨w.heap.size + 1 + 1, 0, none⟩ (.int .u64 ((mc x 0 (fun i => ws.getD (off + i) 0) (fun i => ys.getD i 0) (i + 1) : Nat) : Int))).drewN q := by
    intro i hi W hb hc hf
    have hb0 : Below w.heap.size w (((w.alloc (.cells #[.slice a ys.length vcap] 22)).alloc (.cells #[.int .u64 x] 41)).alloc (.cells #[.int .u64 0] 41)) := (((Below.refl _ w).alloc (Nat.le_refl _) _).alloc (by simp) _).alloc (by simp; omega) _
    have hs : SlS (fun i => i = bw ∨ i = w.heap.size + 1 + 1) .u64 W (.slice a ys.length vcap) ys := by
      refine h.carry fun j hj hs => ⟨(hb.block j (Nat.lt_of_lt_of_le hj hb0.size) hs (by omega)).trans (hb0.block j hj), by omega⟩
    have cb : W.cell? ⟨w.heap.size, 0, none⟩ = some (.slice a ys.length vcap) := hb.cell (cellOld (cellOld (cellNew rfl rfl))) (by simp; omega) (by simp; omega)
    have cx : W.cell? ⟨w.heap.size + 1, 0, none⟩ = some (.int .u64 x) := hb.cell (cellOld (cellNew (by simp) rfl)) (by simp; omega) (by simp)
    have hh := fun i => mc_lt (m := x) (c := 0) (o := fun i => ws.getD (off + i) 0) (y := fun i => ys.getD i 0) hx W64_pos (fun _ => hws.getD _) (fun _ => hys.getD _) i
    have := addMultiple1_any i (ws.getD (off + i) 0) x (mc x 0 (fun i => ws.getD (off + i) 0) (fun i => ys.getD i 0) i) ⟨w.heap.size + 1, 0, none⟩ ⟨w.heap.size, 0, none⟩ ⟨w.heap.size + 1 + 1, 0, none⟩ W cx cb hs hc hf hx (hys.getD i) (hws.getD _) (hh i)
    simpa [mn, mc] using this
  have HS := Lib.hid hstep
  have HB := Lib.hid hblk
  clear hstep hblk h
  go_enter Try.func38, Try.ntmps38
  go_wp2_with fail
  refine (each_any 52 _ enter_addMultiple1 bw off n cap ⟨w.heap.size + 1 + 1, 0, none⟩ ws _ (mc x 0 (fun i => ws.getD (off + i) 0) (fun i => ys.getD i 0)) _ hn hbig (by simp; omega) (((HB.out.alloc _).alloc _).alloc _) (cellNew (by simp) rfl) (freeNew (by simp)) HS.out).mono ?_
  rintro e W' ⟨rfl, hb, hk⟩
  have Hb := Lib.hid hb
  have Hk := Lib.hid hk
  clear hb hk
  go_wp2
  go_end0
  exact ⟨rfl, But.of_but2 ((((Below.refl _ w).alloc (Nat.le_refl _) _).alloc (by simp) _).alloc (by simp; omega) _) Hb.out (by omega), Hk.out⟩

set_option maxHeartbeats 400000 in
theorem double_any {ws : List Nat} (bw off n cap c : Nat) (w : World) (hn : off + n ≤ ws.length) (hbig : n ≤ 9223372036854775807)
    (hblk : Blk .u64 41 w bw ws) (hws : Wf ws) (hc1 : c ≤ 1) :
    Calls Try.prog 40 #[.slice (some ⟨bw, off, none⟩) n cap, .int .u64 c] w fun e w' =>
      e = .returned (.tuple #[]) ∧ But bw w w' ∧ Blk .u64 41 w' bw (upd ws off n (mn 1 c (fun i => ws.getD (off + i) 0) (fun i => ws.getD (off + i) 0))) := by
  have hlt := hblk.lt
  have hstep : ∀ i, i < n → ∀ W, But2 bw w.heap.size (w.alloc (.cells #[.int .u64 c] 41)) W → W.cell? ⟨w.heap.size, 0, none⟩ = some (.int .u64 ((mc 1 c (fun i => ws.getD (off + i) 0) (fun i => ws.getD (off + i) 0) i : Nat) : Int)) → W.frozen? ⟨w.heap.size, 0, none⟩ = false →
      Calls Try.prog 55 (#[.int .i64 i, .int .u64 ((ws.getD (off + i) 0 : Nat) : Int)] ++ #[.pointer (some ⟨w.heap.size, 0, none⟩)]) W fun e W' =>
        e = .returned (.int .u64 ((mn 1 c (fun i => ws.getD (off + i) 0) (fun i => ws.getD (off + i) 0) i : Nat) : Int)) ∧ ∃ q, W' = (W.setCell ⟨w.heap.size, 0, none⟩ (.int .u64 ((mc 1 c (fun i => ws.getD (off + i) 0) (fun i => ws.getD (off + i) 0) (i + 1) : Nat) : Int))).drewN q := by
    intro i hi W hb hc hf
    have := double1_any i (ws.getD (off + i) 0) (mc 1 c (fun i => ws.getD (off + i) 0) (fun i => ws.getD (off + i) 0) i) ⟨w.heap.size, 0, none⟩ W hc hf (hws.getD _) (mc_le_one hc1 (fun _ => hws.getD _) (fun _ => hws.getD _) i)
    simpa [mn, mc, Nat.two_mul] using this
  have HS := Lib.hid hstep
  have HB := Lib.hid hblk
  clear hstep hblk
  go_enter Try.func40, Try.ntmps40
  go_wp2_with fail
  refine (each_any 55 _ enter_double1 bw off n cap ⟨w.heap.size, 0, none⟩ ws _ (mc 1 c (fun i => ws.getD (off + i) 0) (fun i => ws.getD (off + i) 0)) _ hn hbig (by simp; omega) (HB.out.alloc _) (by simp [mc]) (by simp) HS.out).mono ?_
  rintro e W' ⟨rfl, hb, hk⟩
  have Hb := Lib.hid hb
  have Hk := Lib.hid hk
  clear hb hk
  go_wp2
  go_end0
  exact ⟨rfl, But.of_but2 ((Below.refl _ w).alloc (Nat.le_refl _) _) Hb.out (Nat.le_refl _), Hk.out⟩
end Go.Proofs.Ytocmmabpebbdaaa
