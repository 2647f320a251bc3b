/- bitsDown: the iterator over a number's bits. -/
import Derived.Test.YtocmmabpebbdaaaNatG
import Derived.Test.YtocmmabpebbdaaaDiv
import Derived.RangeFuncNested
import Derived.RangeFuncBound
import Derived.RangeFuncCalls
import Derived.RangeFuncLeaves
import Derived.Shelf.Abstract
import Derived.Shelf.RegionOpen
import Derived.OwnWalkIn
import Derived.TacticsInMore
import Derived.LoopNIn
import Derived.LoopIn
namespace Go.Proofs.Ytocmmabpebbdaaa
open Go.RowKit Go.Shelf
attribute [local go_sem] Oper.semAt_some

/-- what a round may turn: the blocks rb and qb, and what lies from B on -/
structure KpD (B rb qb : Nat) (W W' : World) : Prop where
  size : W.heap.size ≤ W'.heap.size
  block : ∀ k, k < B → k ≠ rb → k ≠ qb → W'.heap[k]? = W.heap[k]?
theorem KpD.refl (B rb qb : Nat) (W : World) : KpD B rb qb W W := ⟨Nat.le_refl _, fun _ _ _ _ => rfl⟩
theorem KpD.trans {B rb qb : Nat} {X Y Z : World} (h : KpD B rb qb X Y) (k : KpD B rb qb Y Z) : KpD B rb qb X Z :=
  ⟨Nat.le_trans h.size k.size, fun i hi h1 h2 => (k.block i hi h1 h2).trans (h.block i hi h1 h2)⟩
theorem KpD.putObj {B rb qb : Nat} {w : World} (hB : B ≤ w.heap.size) (W : World) (l : Nat) (o o' : Obj) (hl : w.heap.size ≤ l) (_h : W.heap[l]? = some o) (_ : o.isCells = false) (_ : o.isWalk = false) : KpD B rb qb W (W.putObj l o') :=
  ⟨(grownBy_putObj' W l o').size, fun k hk _ _ => World.putObj_heap_other (by omega)⟩

abbrev Idx (N : Nat) := { j : Nat // j < N }
/-- the first k indices -/
def upto (N k : Nat) : List (Idx N) := (List.range k).filterMap fun j => if h : j < N then some ⟨j, h⟩ else none
theorem upto_succ (N k : Nat) (h : k < N) : upto N (k + 1) = upto N k ++ [⟨k, h⟩] := by simp [upto, List.range_succ, List.filterMap_append, h]
theorem upto_vals (N k : Nat) (h : k ≤ N) : (upto N k).map (·.1) = List.range k := by
  induction k with
  | zero => rfl
  | succ k ih => rw [upto_succ N k (by omega), List.map_append, ih (by omega), List.range_succ]; rfl
theorem upto_length (N k : Nat) (h : k ≤ N) : (upto N k).length = k := by
  have := congrArg List.length (upto_vals N k h)
  simpa using this

/-- what the iterator hands a round: the place, the bit -/
def encBit (N lo : Nat) (x : Idx N) : Array Value := #[.int .i64 ((N - 1 - x.1 : Nat) : Int), .int .u64 ((lo / 2 ^ (N - 1 - x.1) % 2 : Nat) : Int)]

set_option maxRecDepth 100000 in
set_option maxHeartbeats 2000000 in
theorem bitsDown1_in {rb qb B : Nat} {v : Value} {xs : List Nat} (hx : Wf xs) (hlen : xs.length ≤ 1000) (n : Nat) (hn : 1 ≤ n) (l Bs : Nat) (hBs : Bs < B) (hBs1 : Bs ≠ rb) (hBs2 : Bs ≠ qb) (J Jx : List (Idx (64 * xs.length)) → World → Prop)
    (hY : ∀ pre x W, J pre W → pre.length < 64 * xs.length → YieldAt Fence.wide (n - 1) Try.prog l (encBit (64 * xs.length) (val xs) x) W fun e W' =>
      (e = .returned (.bool true) ∧ J (pre ++ [x]) W' ∧ KpD B rb qb W W') ∨ (e = .returned (.bool false) ∧ Jx (pre ++ [x]) W'))
    (W : World) (hB : W.cell? ⟨Bs, 0, none⟩ = some v) (hs : SlS (fun b => B ≤ b ∨ b = rb ∨ b = qb) .u64 W v xs) (h0 : J [] W) :
    CallsIn Fence.wide n Try.prog 54 #[.func (.yield l) #[] #[], .pointer (some ⟨Bs, 0, none⟩)] W fun e W' => (∃ v, e = .returned v) ∧
      ((∃ ys, ys = upto (64 * xs.length) (64 * xs.length) ∧ J ys W') ∨ (∃ pre, (∃ k, k ≤ 64 * xs.length ∧ pre = upto (64 * xs.length) k) ∧ Jx pre W')) := by
  obtain ⟨a, vcap, rfl⟩ : ∃ a vcap, v = .slice a xs.length vcap := let ⟨a, c, e, _⟩ := hs; ⟨a, c, e⟩
  refine callsIn_of_wp Try.func54 rfl trivial ?_ rfl
  simp only [Try.ntmps54, List.size_toArray, List.length_cons, List.length_nil, Nat.reduceAdd, Nat.reduceSub, Array.replicate_succ, Array.replicate_zero, List.push_toArray, List.append_toArray, List.nil_append, List.cons_append]
  have hlen2 : (xs.length : Int) ≤ 1000 := by omega
  gi_wp2
  gi_loopw [3] (fun i wr => ∃ k : Nat, k ≤ 64 * xs.length ∧ Hid ((k < 64 * xs.length ∧ i = .int .i64 ((64 * xs.length - 1 - k : Nat) : Int)) ∨ (k = 64 * xs.length ∧ i = .int .i64 (-1))) ∧ J (upto (64 * xs.length) k) wr ∧ KpD B rb qb W wr) (fun i _ => (intOf i + 1).toNat)
  case atStart =>
    refine ⟨0, Nat.zero_le _, ?_, h0, KpD.refl _ _ _ _⟩
    by_cases h : 0 < 64 * xs.length
    · exact .inl ⟨h, congrArg (Value.int .i64) (by omega)⟩
    · exact .inr ⟨by omega, congrArg (Value.int .i64) (by omega)⟩
  case round =>
    obtain ⟨k, hk, hi, hJs, hnx⟩ := hrel
    rcases hi.out with ⟨hlt, rfl⟩ | ⟨hke, rfl⟩
    · obtain ⟨fn, tmps, assign, body, hy, hR⟩ := hY _ ⟨k, hlt⟩ wr hJs (by rw [upto_length _ _ hk]; exact hlt)
      have hbit := Bit_any (64 * xs.length - 1 - k) (by omega) wr (hs.carry (T := fun _ => False) fun b hb hS => ⟨hnx.block b (by omega) (by omega) (by omega), fun h => h⟩) hx
      have hcell : wr.cell? ⟨Bs, 0, none⟩ = some (.slice a xs.length vcap) := (World.cell?_of_block (hnx.block Bs hBs hBs1 hBs2)).trans hB
      have hsn := upto_succ (64 * xs.length) k hlt
      simp only [encBit] at hy
      obtain ⟨p, hp⟩ : ∃ p, p = 64 * xs.length - 1 - k := ⟨_, rfl⟩
      rw [← hp] at hy hbit ⊢
      have hpb : (p : Int) < 64000 := by omega
      have HP := Lib.hid hp
      have HJ := Lib.hid hJs
      have HN := Lib.hid hnx
      have HS := Lib.hid hsn
      have HR := Lib.hid hR
      have HB := Lib.hid hbit
      generalize hm : val xs / 2 ^ p % 2 = m at *
      clear hp hJs hnx hsn hY hbit hi hs hm hR
      gi_wp2_with (refine ⟨trivial, ?_⟩; gi_at_call 23; refine (callsIn_wide.2 HB.out).mono ?_; rintro e w' ⟨rfl, rfl⟩)
      refine HR.out.mono ?_
      rintro e W3 (⟨rfl, hJ3, hk3⟩ | ⟨rfl, hJx3⟩)
      · have HJ3 := Lib.hid hJ3
        have HK3 := Lib.hid hk3
        clear hJ3 hk3
        gi_wp2
        go_roundw
        case rel =>
          refine ⟨k + 1, by omega, ?_, by rw [HS.out]; exact HJ3.out, HN.out.trans HK3.out⟩
          have := HP.out
          by_cases h : k + 1 < 64 * xs.length
          · exact .inl ⟨h, congrArg (Value.int .i64) (by omega)⟩
          · exact .inr ⟨by omega, congrArg (Value.int .i64) (by omega)⟩
        case measure => have := HP.out; simp [intOf]
      · have HJ3 := Lib.hid hJx3
        clear hJx3
        gi_wp2
        refine bodyPost_ret (results_none rfl _ _ _) rfl ?_
        exact ⟨⟨_, rfl⟩, .inr ⟨_, ⟨k + 1, by omega, HS.out.symm⟩, HJ3.out⟩⟩
    · subst hke
      clear hY hi
      have HJ := Lib.hid hJs
      clear hJs hnx hs
      gi_wp2
      go_end0
      exact ⟨⟨_, rfl⟩, .inl ⟨_, rfl, HJ.out⟩⟩

/-- bitsDown: the function value captures a box of the list -/
theorem bitsDown_any (a : Option Addr) (n cap : Nat) (w : World) :
    Calls Try.prog 39 #[.slice a n cap] w fun e w' => e = .returned (.func (.func 54) #[] #[.pointer (some ⟨w.heap.size, 0, none⟩)]) ∧ w' = w.alloc (.cells #[.slice a n cap] 22) := by
  go_enter Try.func39, Try.ntmps39
  go_wp2
  go_ret
  exact ⟨rfl, rfl⟩

/-- the iterator's contract -/
theorem bitsDown_stops {rb qb B N lo : Nat} {v : Value} {xs : List Nat} (hx : Wf xs) (hlen : xs.length ≤ 1000) (hN : N = 64 * xs.length) (hlo : lo = val xs) (n : Nat) (hn : 1 ≤ n) (Bs : Nat) (hBs : Bs < B) (hBs1 : Bs ≠ rb) (hBs2 : Bs ≠ qb) (w : World) (hBw : B ≤ w.heap.size)
    (hB : w.cell? ⟨Bs, 0, none⟩ = some v) (hs : SlS (fun b => B ≤ b ∨ b = rb ∨ b = qb) .u64 w v xs) :
    SeqStopsK Fence.wide n Try.prog 54 #[.pointer (some ⟨Bs, 0, none⟩)] (encBit N lo) (KpD B rb qb) (fun ys => ys = upto N N) (fun _ => True) N w := by
  subst hN hlo
  intro l J Jx W hW _ _ hY h0
  refine (bitsDown1_in (rb := rb) (qb := qb) (B := B) hx hlen n hn l Bs hBs hBs1 hBs2 J Jx hY W ((World.cell?_of_block (hW.block Bs (by omega))).trans hB) (hs.carry fun b hb hS => ⟨hW.block b hb, hS⟩) h0).mono ?_
  rintro e W' ⟨he, ⟨ys, hys, hj⟩ | ⟨pre, _, hj⟩⟩
  · exact ⟨he, .inl ⟨ys, hys, hj⟩⟩
  · exact ⟨he, .inr ⟨pre, trivial, hj⟩⟩
end Go.Proofs.Ytocmmabpebbdaaa
