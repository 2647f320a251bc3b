/- How a slice of words reads in a world; a block of words that the call itself made. -/
import Derived.Test.YtocmmabpebbdaaaNatMath
import Derived.Test.YtocmmabpebbdaaaProg
import Derived.WalkKit
import Derived.WalkSpells
import Derived.WalkLawsBesides
import Derived.Lib.Hide
import Derived.Deep.QuietTactic
namespace Go.Proofs.Ytocmmabpebbdaaa
open Go.RowKit

/-- the cells of the address a, from it on, hold the numbers xs, as integers of kind k; the block is none of S -/
def RdS (S : Nat → Prop) (k : IntKind) (w : World) (a : Option Addr) (xs : List Nat) : Prop :=
  xs = [] ∨ ∃ b off, a = some ⟨b, off, none⟩ ∧ ¬ S b ∧ ∀ j, j < xs.length → w.cell? ⟨b, off + j, none⟩ = some (.int k ((xs.getD j 0 : Nat) : Int))
abbrev Rd (k : IntKind) (w : World) (a : Option Addr) (xs : List Nat) : Prop := RdS (fun _ => False) k w a xs

/-- the value v is a slice that reads xs -/
def SlS (S : Nat → Prop) (k : IntKind) (w : World) (v : Value) (xs : List Nat) : Prop :=
  ∃ a cap, v = .slice a xs.length cap ∧ xs.length ≤ cap ∧ cap ≤ 9223372036854775807 ∧ (a = none → cap = 0) ∧ RdS S k w a xs
abbrev Sl (w : World) (v : Value) (xs : List Nat) : Prop := SlS (fun _ => False) .u64 w v xs
abbrev SlB (w : World) (v : Value) (xs : List Nat) : Prop := SlS (fun _ => False) .u8 w v xs

/-- numbers as cells -/
def wvs (k : IntKind) (xs : List Nat) : List Value := xs.map fun (x : Nat) => Value.int k (x : Int)

/-- a block of just these numbers, written by nobody else -/
def Blk (k : IntKind) (e : TypeId) (w : World) (b : Nat) (xs : List Nat) : Prop :=
  w.heap[b]? = some (.cells (wvs k xs).toArray e (0, 0))

theorem RdS.nil (S : Nat → Prop) (k : IntKind) (w : World) (a : Option Addr) : RdS S k w a [] := .inl rfl
theorem RdS.lt {S : Nat → Prop} {k : IntKind} {w : World} {b off : Nat} {s : Option Nat} {xs : List Nat} (h : RdS S k w (some ⟨b, off, s⟩) xs) (hx : 0 < xs.length) : b < w.heap.size := by
  rcases h with rfl | ⟨b', off', e, _, hc⟩
  · simp at hx
  · cases e
    exact World.block_lt_of_cell? w _ (hc 0 hx)
/-- the reading is carried to another world in which the old blocks are as they were -/
theorem RdS.carry {S T : Nat → Prop} {k : IntKind} {w w' : World} {a : Option Addr} {xs : List Nat} (h : RdS S k w a xs)
    (hb : ∀ b, b < w.heap.size → ¬ S b → w'.heap[b]? = w.heap[b]? ∧ ¬ T b) : RdS T k w' a xs := by
  rcases h with h | ⟨b, off, e, hs, hc⟩
  · exact .inl h
  · by_cases hx : xs = []
    · exact .inl hx
    · have hp : 0 < xs.length := List.length_pos_iff.2 hx
      have hlt : b < w.heap.size := World.block_lt_of_cell? w ⟨b, off + 0, none⟩ (hc 0 hp)
      exact .inr ⟨b, off, e, (hb b hlt hs).2, fun j hj => (World.cell?_of_block (hb b hlt hs).1).trans (hc j hj)⟩
theorem RdS.heap {S : Nat → Prop} {k : IntKind} {w w' : World} {a : Option Addr} {xs : List Nat} (h : RdS S k w a xs) (hh : w'.heap = w.heap) : RdS S k w' a xs :=
  h.carry fun b _ hs => ⟨by rw [hh], hs⟩
theorem RdS.below {k : IntKind} {w w' : World} {a : Option Addr} {xs : List Nat} (h : Rd k w a xs) (hb : Below w.heap.size w w') : Rd k w' a xs :=
  h.carry fun b hlt _ => ⟨hb.block b hlt, fun h => h⟩
/-- what was there when the world was w is in none of the blocks from w's size on -/
theorem RdS.fresh {k : IntKind} {w w' : World} {a : Option Addr} {xs : List Nat} (h : Rd k w a xs) (hb : Below w.heap.size w w') {S : Nat → Prop} (hS : ∀ b, S b → w.heap.size ≤ b) : RdS S k w' a xs :=
  h.carry fun b hlt _ => ⟨hb.block b hlt, fun h => by have := hS b h; omega⟩
theorem RdS.weaken {S T : Nat → Prop} {k : IntKind} {w : World} {a : Option Addr} {xs : List Nat} (h : RdS S k w a xs) (hT : ∀ b, T b → S b) : RdS T k w a xs :=
  h.carry fun _ _ hs => ⟨rfl, fun ht => hs (hT _ ht)⟩
theorem RdS.take {S : Nat → Prop} {k : IntKind} {w : World} {a : Option Addr} {xs : List Nat} (h : RdS S k w a xs) (n : Nat) : RdS S k w a (xs.take n) := by
  rcases h with rfl | ⟨b, off, e, hs, hc⟩
  · exact .inl (by simp)
  · refine .inr ⟨b, off, e, hs, fun j hj => ?_⟩
    rw [List.length_take] at hj
    rw [hc j (by omega)]
    simp [List.getD, show j < n by omega]
theorem RdS.drop {S : Nat → Prop} {k : IntKind} {w : World} {b off : Nat} {xs : List Nat} (h : RdS S k w (some ⟨b, off, none⟩) xs) (n : Nat) : RdS S k w (some ⟨b, off + n, none⟩) (xs.drop n) := by
  rcases h with rfl | ⟨b', off', e, hs, hc⟩
  · exact .inl (by simp)
  · cases e
    refine .inr ⟨b, off + n, rfl, hs, fun j hj => ?_⟩
    rw [List.length_drop] at hj
    rw [show off + n + j = off + (n + j) by omega, hc (n + j) (by omega)]
    simp [List.getD]
theorem RdS.norm {S : Nat → Prop} {k : IntKind} {w : World} {a : Option Addr} {xs : List Nat} (h : RdS S k w a xs) : RdS S k w a (norm xs) := by
  rw [norm_take]; exact h.take _

theorem SlS.carry {S T : Nat → Prop} {k : IntKind} {w w' : World} {v : Value} {xs : List Nat} (h : SlS S k w v xs)
    (hb : ∀ b, b < w.heap.size → ¬ S b → w'.heap[b]? = w.heap[b]? ∧ ¬ T b) : SlS T k w' v xs := by
  obtain ⟨a, cap, h1, h2, h3, h4, h5⟩ := h
  exact ⟨a, cap, h1, h2, h3, h4, h5.carry hb⟩
theorem SlS.heap {S : Nat → Prop} {k : IntKind} {w w' : World} {v : Value} {xs : List Nat} (h : SlS S k w v xs) (hh : w'.heap = w.heap) : SlS S k w' v xs :=
  h.carry fun b _ hs => ⟨by rw [hh], hs⟩
theorem SlS.below {k : IntKind} {w w' : World} {v : Value} {xs : List Nat} (h : SlS (fun _ => False) k w v xs) (hb : Below w.heap.size w w') : SlS (fun _ => False) k w' v xs :=
  h.carry fun b hlt _ => ⟨hb.block b hlt, fun h => h⟩
theorem SlS.fresh {k : IntKind} {w w' : World} {v : Value} {xs : List Nat} (h : SlS (fun _ => False) k w v xs) (hb : Below w.heap.size w w') {S : Nat → Prop} (hS : ∀ b, S b → w.heap.size ≤ b) : SlS S k w' v xs :=
  h.carry fun b hlt _ => ⟨hb.block b hlt, fun h => by have := hS b h; omega⟩
theorem SlS.weaken {S T : Nat → Prop} {k : IntKind} {w : World} {v : Value} {xs : List Nat} (h : SlS S k w v xs) (hT : ∀ b, T b → S b) : SlS T k w v xs :=
  h.carry fun _ _ hs => ⟨rfl, fun ht => hs (hT _ ht)⟩
theorem SlS.plain {S : Nat → Prop} {k : IntKind} {w : World} {v : Value} {xs : List Nat} (h : SlS S k w v xs) : SlS (fun _ => False) k w v xs := h.weaken fun _ h => h.elim
theorem SlS.nil (S : Nat → Prop) (k : IntKind) (w : World) : SlS S k w (.slice none 0 0) [] := ⟨none, 0, rfl, Nat.le_refl _, by omega, fun _ => rfl, .inl rfl⟩

theorem SlS.shape {S : Nat → Prop} {k : IntKind} {w : World} {v : Value} {xs : List Nat} (h : SlS S k w v xs) : ∃ a n cap, v = .slice a n cap := let ⟨a, c, e, _⟩ := h; ⟨a, _, c, e⟩
theorem Blk.lt {k : IntKind} {e : TypeId} {w : World} {b : Nat} {xs : List Nat} (h : Blk k e w b xs) : b < w.heap.size := (Array.getElem?_eq_some_iff.1 h).1
theorem Blk.cell {k : IntKind} {e : TypeId} {w : World} {b : Nat} {xs : List Nat} (h : Blk k e w b xs) (j : Nat) (hj : j < xs.length) : w.cell? ⟨b, j, none⟩ = some (.int k ((xs.getD j 0 : Nat) : Int)) := by
  unfold World.cell?
  rw [h]
  simp [wvs, List.getD, hj]
theorem Blk.free {k : IntKind} {e : TypeId} {w : World} {b : Nat} {xs : List Nat} (h : Blk k e w b xs) (o : Nat) (s : Option Nat) : w.frozen? ⟨b, o, s⟩ = false := by
  unfold World.frozen?
  rw [h]
  simp
theorem Blk.rd {k : IntKind} {e : TypeId} {w : World} {b : Nat} {xs : List Nat} (h : Blk k e w b xs) (off n : Nat) (hn : off + n ≤ xs.length) {S : Nat → Prop} (hS : ¬ S b) : RdS S k w (some ⟨b, off, none⟩) ((xs.drop off).take n) := by
  refine .inr ⟨b, off, rfl, hS, fun j hj => ?_⟩
  rw [List.length_take, List.length_drop] at hj
  rw [h.cell (off + j) (by omega)]
  simp [List.getD, show j < n by omega]
theorem Blk.sl {k : IntKind} {e : TypeId} {w : World} {b : Nat} {xs : List Nat} (h : Blk k e w b xs) (cap : Nat) (h1 : xs.length ≤ cap) (h2 : cap ≤ 9223372036854775807) {S : Nat → Prop} (hS : ¬ S b) : SlS S k w (.slice (some ⟨b, 0, none⟩) xs.length cap) xs := by
  refine ⟨_, cap, rfl, h1, h2, by simp, ?_⟩
  have := h.rd 0 xs.length (by omega) hS
  simpa using this
theorem Blk.slN {k : IntKind} {e : TypeId} {w : World} {b n : Nat} {xs : List Nat} (h : Blk k e w b xs) (hn : xs.length = n) (h2 : n ≤ 9223372036854775807) {S : Nat → Prop} (hS : ¬ S b) : SlS S k w (.slice (some ⟨b, 0, none⟩) n n) xs := by
  subst hn; exact h.sl _ (Nat.le_refl _) h2 hS
theorem Blk.set {k : IntKind} {e : TypeId} {w : World} {b : Nat} {xs : List Nat} (h : Blk k e w b xs) (j v : Nat) : Blk k e (w.setCell ⟨b, j, none⟩ (.int k (v : Int))) b (xs.set j v) := by
  unfold Blk World.setCell
  simp only [Array.getElem?_modify, if_true]
  rw [h]
  simp [wvs, List.map_set]
theorem Blk.carry {k : IntKind} {e : TypeId} {w w' : World} {b : Nat} {xs : List Nat} (h : Blk k e w b xs) (hb : w'.heap[b]? = w.heap[b]?) : Blk k e w' b xs := hb.trans h
theorem Blk.below {k : IntKind} {e : TypeId} {w w' : World} {b : Nat} {xs : List Nat} (h : Blk k e w b xs) (hb : Below w.heap.size w w') : Blk k e w' b xs := h.carry (hb.block b h.lt)
theorem Blk.setOther {k : IntKind} {e : TypeId} {w : World} {b : Nat} {xs : List Nat} (h : Blk k e w b xs) (a : Addr) (u : Value) (ha : a.block ≠ b) : Blk k e (w.setCell a u) b xs :=
  h.carry (Below.heap_setCell _ _ _ _ (fun e => ha e.symm))
theorem Blk.new (k : IntKind) (e : TypeId) (w : World) (xs : List Nat) : Blk k e (w.alloc (.cells (wvs k xs).toArray e)) w.heap.size xs := heap_alloc_new w _
theorem Blk.alloc {k : IntKind} {e : TypeId} {w : World} {b : Nat} {xs : List Nat} (h : Blk k e w b xs) (o : Obj) : Blk k e (w.alloc o) b xs := h.carry (Below.heap_alloc _ _ _ h.lt)

/-- a call that leaves the world as it is, in a region that draws its order -/
theorem quiet_same {P : Program} {f : FuncId} {args : Array Value} {w : World} {a x : Nat} {v : Value} (h : Calls P f args (w.drewN (a + x)) fun e w' => e = .returned v ∧ w' = w.drewN (a + x)) :
    Calls P f args (w.drewN (a + x)) fun e w'' => e = .returned v ∧ ∃ n, w'' = w.drewN (a + n) := h.mono fun _ _ ⟨he, hw⟩ => ⟨he, x, hw⟩
/-- a call that draws, in a region that draws its order -/
theorem quiet_draws {P : Program} {f : FuncId} {args : Array Value} {w : World} {a x : Nat} {v : Value} (h : Calls P f args (w.drewN (a + x)) fun e w' => e = .returned v ∧ ∃ q, w' = (w.drewN (a + x)).drewN q) :
    Calls P f args (w.drewN (a + x)) fun e w'' => e = .returned v ∧ ∃ n, w'' = w.drewN (a + n) := h.mono fun _ _ ⟨he, q, hw⟩ => ⟨he, x + q, by rw [hw, World.drewN_drewN, Nat.add_assoc]⟩
theorem quiet_draws0 {P : Program} {f : FuncId} {args : Array Value} {w : World} {x : Nat} {v : Value} (h : Calls P f args (w.drewN x) fun e w' => e = .returned v ∧ ∃ q, w' = (w.drewN x).drewN q) :
    Calls P f args (w.drewN x) fun e w'' => e = .returned v ∧ ∃ n, w'' = w.drewN n := h.mono fun _ _ ⟨he, q, hw⟩ => ⟨he, x + q, by rw [hw, World.drewN_drewN]⟩
theorem cellNew {w : World} {c : Array Value} {t : TypeId} {n i : Nat} {v : Value} (hn : n = w.heap.size) (hv : c[i]? = some v) : (w.alloc (.cells c t)).cell? ⟨n, i, none⟩ = some v := by
  subst hn; rw [World.cell?_alloc_new]; exact hv
theorem cellOld {w : World} {o : Obj} {a : Addr} {v : Value} (h : w.cell? a = some v) : (w.alloc o).cell? a = some v :=
  (World.cell?_alloc_old _ _ _ (fun e => by have := World.block_lt_of_cell? w a h; omega)).trans h
theorem freeNew {w : World} {c : Array Value} {t : TypeId} {n i : Nat} (hn : n = w.heap.size) : (w.alloc (.cells c t)).frozen? ⟨n, i, none⟩ = false := by
  subst hn; exact World.frozen?_alloc_new _ _ _ _
theorem freeOld {w : World} {o : Obj} {a : Addr} {f : Bool} (h : w.frozen? a = f) (hlt : a.block < w.heap.size) : (w.alloc o).frozen? a = f :=
  (World.frozen?_alloc_old _ _ _ (fun e => by omega)).trans h
theorem cell_set_far {w : World} {p a : Addr} {u v : Value} (h : p.block ≠ a.block) (hc : w.cell? a = some v) : (w.setCell p u).cell? a = some v :=
  (World.cell?_of_block (Below.heap_setCell _ _ _ _ (fun e => h e.symm))).trans hc

/-- w' is w, but for block b (and for new blocks) -/
structure But (b : Nat) (w w' : World) : Prop where
  os : w'.os = w.os
  tape : w'.tape = w.tape
  output : w'.output = w.output
  size : w.heap.size ≤ w'.heap.size
  block : ∀ k, k < w.heap.size → k ≠ b → w'.heap[k]? = w.heap[k]?
/-- w' is w, but for the blocks b and c (and for new blocks) -/
structure But2 (b c : Nat) (w w' : World) : Prop where
  os : w'.os = w.os
  tape : w'.tape = w.tape
  output : w'.output = w.output
  size : w.heap.size ≤ w'.heap.size
  block : ∀ k, k < w.heap.size → k ≠ b → k ≠ c → w'.heap[k]? = w.heap[k]?
theorem But2.refl (b c : Nat) (w : World) : But2 b c w w := ⟨rfl, rfl, rfl, Nat.le_refl _, fun _ _ _ _ => rfl⟩
theorem But2.trans {b c : Nat} {w w' w'' : World} (h : But2 b c w w') (k : But2 b c w' w'') : But2 b c w w'' :=
  ⟨k.os.trans h.os, k.tape.trans h.tape, k.output.trans h.output, Nat.le_trans h.size k.size, fun i hi hb hc => (k.block i (Nat.lt_of_lt_of_le hi h.size) hb hc).trans (h.block i hi hb hc)⟩
theorem But2.drewN {b c : Nat} {w w' : World} (h : But2 b c w w') (n : Nat) : But2 b c w (w'.drewN n) := ⟨h.os, h.tape, h.output, h.size, h.block⟩
theorem But2.setCell {b c : Nat} {w w' : World} (h : But2 b c w w') {p : Addr} (hp : p.block = b ∨ p.block = c) (u : Value) : But2 b c w (w'.setCell p u) :=
  h.trans ⟨rfl, rfl, rfl, by simp [World.setCell], fun k _ h1 h2 => Below.heap_setCell _ _ _ _ (by rcases hp with hp | hp <;> omega)⟩
theorem But2.cell {b c : Nat} {w w' : World} (h : But2 b c w w') {p : Addr} {v : Value} (hc : w.cell? p = some v) (h1 : p.block ≠ b) (h2 : p.block ≠ c) : w'.cell? p = some v :=
  (World.cell?_of_block (h.block p.block (World.block_lt_of_cell? w p hc) h1 h2)).trans hc
theorem But.refl (b : Nat) (w : World) : But b w w := ⟨rfl, rfl, rfl, Nat.le_refl _, fun _ _ _ => rfl⟩
theorem But.trans {b : Nat} {w w' w'' : World} (h : But b w w') (k : But b w' w'') : But b w w'' :=
  ⟨k.os.trans h.os, k.tape.trans h.tape, k.output.trans h.output, Nat.le_trans h.size k.size, fun i hi hne => (k.block i (Nat.lt_of_lt_of_le hi h.size) hne).trans (h.block i hi hne)⟩
theorem But.below {b B : Nat} {w0 w w' : World} (h0 : Below B w0 w) (h : But b w w') (hB : B ≤ b) (hs : B ≤ w.heap.size) : Below B w0 w' :=
  h0.trans ⟨h.os, h.tape, h.output, h.size, fun k hk => h.block k (by omega) (by omega)⟩
theorem But.drewN {b : Nat} {w w' : World} (h : But b w w') (n : Nat) : But b w (w'.drewN n) := ⟨h.os, h.tape, h.output, h.size, h.block⟩
theorem But.setCell {b : Nat} {w w' : World} (h : But b w w') {p : Addr} (hp : p.block = b) (u : Value) : But b w (w'.setCell p u) :=
  h.trans ⟨rfl, rfl, rfl, by simp [World.setCell], fun k _ hne => Below.heap_setCell _ _ _ _ (by omega)⟩
theorem But.of_below {b : Nat} {w w' : World} (h : Below w.heap.size w w') : But b w w' := ⟨h.os, h.tape, h.output, h.size, fun k hk _ => h.block k hk⟩
end Go.Proofs.Ytocmmabpebbdaaa
