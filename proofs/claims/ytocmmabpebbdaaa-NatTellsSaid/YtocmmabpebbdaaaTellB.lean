/- NatTells: its body's statements, one by one. -/
import Derived.Test.YtocmmabpebbdaaaTellA
import Derived.Deep.CutRange
namespace Go.Proofs.Ytocmmabpebbdaaa
open Go.RowKit

/-- the rest of a row of statements -/
def restN : Nat → Code → Code
  | 0, c => c
  | n + 1, .seq _ b => restN n b
  | _ + 1, c => c
/-- one part of a statement: left (false) or right (true) -/
def pick : List Bool → Code → Code
  | [], c => c
  | false :: r, .seq a _ => pick r a
  | true :: r, .seq _ b => pick r b
  | false :: r, .cond _ a _ => pick r a
  | true :: r, .cond _ _ b => pick r b
  | _ :: r, .block _ c => pick r c
  | _ :: _, c => c
noncomputable def tellsBody : Code := Try.f3.body.getD .skip

theorem wp_seq_m {P : Program} {x y y' : Code} {Q : Exit → Act → World → Prop} {a : Act} {w : World} (hy : y = y')
    (h : ∀ J : Act → World → Prop, (∀ a w, Met (fun a w => y'.wp P Q a w) a w → J a w) → x.wp P (Exit.then J Q) a w) : (Code.seq x y).wp P Q a w := by
  subst hy
  exact wp_seq (h _ fun _ _ h => h)

structure TF (xs ys bs : List Nat) (n1 n2 n3 : Nat) (i n : Int) : Prop where
  e1 : n1 = xs.length
  e2 : n2 = ys.length
  e3 : n3 = bs.length
  hi : -9223372036854775808 ≤ i ∧ i < 9223372036854775808
  hn : -9223372036854775808 ≤ n ∧ n ≤ 700
  x1 : Wf xs
  x2 : Wf ys
  x3 : ∀ x ∈ bs, x < 256
  l1 : xs.length ≤ 100
  l2 : ys.length ≤ 100
  l3 : bs.length ≤ 700
theorem TF.dx {xs ys bs : List Nat} {n1 n2 n3 : Nat} {i n : Int} (F : TF xs ys bs n1 n2 n3 i n) : (Dig.toW (val xs)).length ≤ 400 := by
  have h1 := dig_len (val_lt F.x1)
  have := F.l1
  omega
theorem TF.dy {xs ys bs : List Nat} {n1 n2 n3 : Nat} {i n : Int} (F : TF xs ys bs n1 n2 n3 i n) : (Dig.toW (val ys)).length ≤ 400 := by
  have h1 := dig_len (val_lt F.x2)
  have := F.l2
  omega

/-- what the calls told -/
structure TL (xs ys : List Nat) (lg : Bool) (ea es ed : Int) (La Ls Lm Lq Lr : List Nat) : Prop where
  hl : lg = decide (80 < xs.length ∨ 80 < ys.length)
  ha : (if 80 < xs.length ∨ 80 < ys.length then (11 : Int) else 0) = ea
  hs : (if 80 < xs.length ∨ 80 < ys.length then (11 : Int) else if val xs < val ys then 1 else 0) = es
  hd : (if 80 < xs.length ∨ 80 < ys.length then (11 : Int) else if val ys = 0 then 20 else 0) = ed
  La : (if 80 < xs.length ∨ 80 < ys.length then [] else toW (val xs + val ys)) = La
  Ls : (if 80 < xs.length ∨ 80 < ys.length then [] else if val xs < val ys then [] else toW (val xs - val ys)) = Ls
  Lm : (if 80 < xs.length ∨ 80 < ys.length then [] else toW (val xs * val ys)) = Lm
  Lq : (if 80 < xs.length ∨ 80 < ys.length then [] else if val ys = 0 then [] else toW (val xs / val ys)) = Lq
  Lr : (if 80 < xs.length ∨ 80 < ys.length then [] else if val ys = 0 then [] else toW (val xs % val ys)) = Lr

abbrev L5 (v1 v2 v3 x y : Value) (xs ys bs : List Nat) : List EntK := [⟨.u64, v1, xs⟩, ⟨.u64, v2, ys⟩, ⟨.u8, v3, bs⟩, ⟨.u32, x, Dig.toW (val xs)⟩, ⟨.u32, y, Dig.toW (val ys)⟩]

abbrev QT (w : World) : Exit → Act → World → Prop := bodyPost Try.prog Try.f3 fun e w' => e = .returned (.bool true) ∧ Below w.heap.size w w'

theorem StK.cut {w W : World} {L M : List EntK} (h : StK w W (L ++ M)) : StK w W L := ⟨h.below, fun i e he => h.env i e (by rw [List.getElem?_append_left (List.getElem?_eq_some_iff.1 he).1]; exact he)⟩
theorem conv_text {W : World} {b m : Nat} {bs : List Nat} (h : Blk .u8 5 W b bs) (hm : bs.length = m) (hl : m ≤ 1000) : (convert 23 9 (.slice (some ⟨b, 0, none⟩) m m)).run Try.prog W = .ok (.string (strOfNums (bs.map Int.ofNat))) W := by
  subst hm
  by_cases hb : bs = []
  · subst hb
    rw [run_convert_bytes_string W 23 9 5 _ _ _ Try.underlying23 Try.underlying5 Try.underlying9]
    simp [Conv.bytesToString, loadCells, strOfNums]
    try rfl
  · exact run_convert_bytes_arg W 23 5 Try.underlying23 Try.underlying5 b 0 bs.length bs.length (bs.map Int.ofNat) (by simp) (fun i hi => by
        rw [Nat.zero_add, h.cell i hi]
        simp [List.getD, hi]) 9 Try.underlying9

theorem shut {k : IntKind} {W : World} {v : Value} {xs : List Nat} (h : SlS (fun _ => False) k W v xs) : ∃ a c, v = .slice a xs.length c := let ⟨a, c, e, _⟩ := h; ⟨a, c, e⟩
end Go.Proofs.Ytocmmabpebbdaaa
