/- DivMod. -/
import Derived.Test.YtocmmabpebbdaaaNatH
import Derived.Test.YtocmmabpebbdaaaRound
namespace Go.Proofs.Ytocmmabpebbdaaa
open Go.RowKit Go.Shelf
attribute [local go_sem] Oper.semAt_some

/-- what holds between two rounds of the division -/
structure DvI (w : World) (bb rb qb : Nat) (vb vr vq : Value) (lb : Nat) (st : Nat × List Nat) (W : World) : Prop where
  below : Below w.heap.size w W
  size : qb + 1 + 1 + 1 ≤ W.heap.size
  c3 : W.cell? ⟨bb, 0, none⟩ = some vb
  c8 : W.cell? ⟨rb + 1, 0, none⟩ = some vr
  c9 : W.cell? ⟨qb + 1, 0, none⟩ = some vq
  rlk : ∃ rs, Blk .u64 41 W rb rs ∧ rs.length = lb + 1 ∧ Wf rs ∧ val rs = st.1
  qlk : Blk .u64 41 W qb st.2

/-- what a round leaves -/
def DvQ (n B : Nat) (w : World) (bb rb qb : Nat) (vb vr vq : Value) (lb : Nat) (st : Nat × List Nat) (W : World) (e : Exit) (_ : Act) (W' : World) : Prop :=
  e = .normal ∧ KeepsFrom n W W' ∧ KpD B rb qb W W' ∧ DvI w bb rb qb vb vr vq lb st W'

theorem cells_kept {A B : World} {row : Option Nat} {n : Nat} (hg : A.grownBy B row) (hr : ∀ r, row = some r → n ≤ r ∧ ∃ o : Obj, A.heap[r]? = some o ∧ o.isCells = false) {b : Nat} {c : Array Value} {e : TypeId} {f : Nat × Nat}
    (h : A.heap[b]? = some (.cells c e f)) : B.heap[b]? = A.heap[b]? :=
  hg.block b (Array.getElem?_eq_some_iff.1 h).1 (fun e' => by
    obtain ⟨_, o, ho, hc⟩ := hr b e'.symm
    rw [h] at ho
    cases ho
    cases hc)
theorem block_of_cell {A : World} {p : Addr} {v : Value} (h : A.cell? p = some v) : ∃ c e f, A.heap[p.block]? = some (.cells c e f) := by
  unfold World.cell? at h
  split at h
  · exact ⟨_, _, _, by assumption⟩
  · cases h
theorem DvI.own {β : Type} {w : World} {bb rb qb : Nat} {vb vr vq : Value} {lb : Nat} (f : β → Nat × List Nat) {n : Nat} (hn : w.heap.size ≤ n) : OwnFrom n (fun (s : β) W => DvI w bb rb qb vb vr vq lb (f s) W) := by
  intro s A B row hs hg hr
  have hcell : ∀ {p : Addr} {v : Value}, A.cell? p = some v → B.cell? p = some v := by
    intro p v h
    obtain ⟨c, e, fz, hb⟩ := block_of_cell h
    exact (World.cell?_of_block (cells_kept hg hr hb)).trans h
  refine ⟨hs.below.grown hg hs.below.size (fun k e => Nat.le_trans hn (hr k e).1), Nat.le_trans hs.size hg.size, hcell hs.c3, hcell hs.c8, hcell hs.c9, ?_, (cells_kept hg hr hs.qlk).trans hs.qlk⟩
  obtain ⟨rs, h1, h2⟩ := hs.rlk
  exact ⟨rs, (cells_kept hg hr h1).trans h1, h2⟩
theorem But.keepsFrom {b : Nat} {W W' : World} (h : But b W W') {k : IntKind} {e : TypeId} {xs : List Nat} (hb : Blk k e W b xs) (n : Nat) : KeepsFrom n W W' :=
  ⟨h.size, fun i o _ hi ho => (h.block i (Array.getElem?_eq_some_iff.1 hi).1 (fun e => by subst e; rw [show W.heap[i]? = _ from hb] at hi; cases hi; cases ho)).trans hi⟩
theorem But.kpD {b : Nat} {W W' : World} (h : But b W W') {B qb : Nat} (hB : B ≤ W.heap.size) : KpD B b qb W W' := ⟨h.size, fun i hi h1 _ => h.block i (by omega) h1⟩
theorem wp_frame {P : Program} {c : Code} {Q : Exit → Act → World → Prop} {a : Act} {w : World} (h : ∀ T, T = a.tmps → c.wp P Q ⟨T, a.defers⟩ w) : c.wp P Q a w := h _ rfl

/-- x[L:] -/
theorem slice_from {S : Nat → Prop} {w : World} {a : Option Addr} {la cap L : Nat} {xs : List Nat} (h : SlS S .u64 w (.slice a la cap) xs) (hL : L ≤ la) :
    ∃ ahi, (∀ W, (Instr.slice 22 (.slice a la cap) (some (.int .i64 (L : Int))) none none).run Try.prog W = .ok (.slice ahi (la - L) (cap - L)) W) ∧ (ahi = none → cap - L = 0) ∧ RdS S .u64 w ahi (xs.drop L) ∧ la = xs.length := by
  obtain ⟨a', cap', e, hlc, hcap, hnil, hr⟩ := h
  cases e
  have hrun : ∀ W, (Instr.slice 22 (.slice a xs.length cap) (some (.int .i64 (L : Int))) none none).run Try.prog W = .ok (.slice (if cap = L then a else a.map (·.add L)) (xs.length - L) (cap - L)) W := by
    intro W
    have he : Try.prog.elem 22 = 41 := by kernel_rfl
    rw [run_slice_l (P := Try.prog) W 22 a xs.length cap (by rw [he]; exact Try.underlying22) .i64 (L : Int) (by omega) (by omega), he]
    obtain ⟨i, hi, _, hsz, _⟩ := info_parts info_u64
    simp [sizeOf, typeInfo, hi, hsz, sliced, go_sem]
  refine ⟨_, hrun, ?_, ?_, rfl⟩
  · intro h
    split at h
    · omega
    · cases a with
      | none => have := hnil rfl; omega
      | some a => simp at h
  · by_cases hx : xs.drop L = []
    · exact .inl hx
    · have hlt : L < xs.length := by
        rcases Nat.lt_or_ge L xs.length with h | h
        · exact h
        · exact absurd (List.drop_of_length_le h) hx
      rcases hr with hr | ⟨b, off, rfl, hS, hc⟩
      · subst hr; simp at hlt
      rw [if_neg (by omega)]
      have := RdS.drop (.inr ⟨b, off, rfl, hS, hc⟩ : RdS S .u64 w (some ⟨b, off, none⟩) xs) L
      simpa [Addr.add_lit] using this

set_option maxRecDepth 100000 in
set_option maxHeartbeats 400000 in
theorem DivMod_any {v u : Value} {xs ys : List Nat} (w : World) (h : Sl w v xs) (h' : Sl w u ys) (hx : Wf xs) (hy : Wf ys) (hl : xs.length ≤ 80) (hl' : ys.length ≤ 80) (hpos : 0 < val ys) :
    Calls Try.prog 15 #[v, u] w fun e w' => ∃ q r, e = .returned (.tuple #[q, r, .int .i64 0]) ∧ Sl w' q (toW (val xs / val ys)) ∧ Sl w' r (toW (val xs % val ys)) ∧ Below w.heap.size w w' := by
  obtain ⟨a, cap, rfl, hlc, hcap, hnil, hr⟩ := h
  obtain ⟨b, bcap, rfl, hlc', hcap', hnil', hr'⟩ := h'
  have hH : Sl w (.slice a xs.length cap) xs := ⟨a, cap, rfl, hlc, hcap, hnil, hr⟩
  have hH' : Sl w (.slice b ys.length bcap) ys := ⟨b, bcap, rfl, hlc', hcap', hnil', hr'⟩
  clear hr hr' hlc hlc'
  have hd : decide (80 < xs.length ∨ 80 < ys.length) = false := decide_eq_false (by omega)
  have hb0 : Below w.heap.size w ((w.alloc (.cells #[.slice b ys.length bcap] 22)).alloc (.cells #[.slice a xs.length cap, .slice b ys.length bcap] 22)) := ((Below.refl _ w).alloc (Nat.le_refl _) _).alloc (by simp) _
  have ht := fun (c : Nat) => tooLong2_any ((w.alloc (.cells #[.slice b ys.length bcap] 22)).alloc (.cells #[.slice a xs.length cap, .slice b ys.length bcap] 22)) (hH.below hb0) (hH'.below hb0) (cap := c) (pair_cells _ _ _ 22).1 (pair_cells _ _ _ 22).2
  rw [hd] at ht
  simp only [World.size_alloc] at ht
  clear hd
  obtain ⟨la, hla⟩ : ∃ la, la = (norm xs).length := ⟨_, rfl⟩
  obtain ⟨lb, hlb⟩ : ∃ lb, lb = (norm ys).length := ⟨_, rfl⟩
  have hi1 := fun (W : World) (hW : W.heap = ((w.alloc (.cells #[.slice b ys.length bcap] 22)).alloc (.cells #[.slice a xs.length cap, .slice b ys.length bcap] 22)).heap) => inForm_exact W ((hH.below hb0).heap hW) hla
  have hi2 := fun (W : World) (hW : W.heap = ((w.alloc (.cells #[.slice b ys.length bcap] 22)).alloc (.cells #[.slice a xs.length cap, .slice b ys.length bcap] 22)).heap) => inForm_exact W ((hH'.below hb0).heap hW) hlb
  have HT := Lib.hid ht
  have HI1 := Lib.hid hi1
  have HI2 := Lib.hid hi2
  have HA := Lib.hid hH
  have HB := Lib.hid hH'
  have HLA := Lib.hid hla
  have HLB := Lib.hid hlb
  clear ht hi1 hi2 hH hH' hla hlb
  refine callsIn_wide.1 (callsIn_of_wp_marks (n := 3) Try.func15 rfl trivial (wpIn_wide.2 ?_) rfl)
  simp only [Try.ntmps15, List.size_toArray, List.length_cons, List.length_nil, Nat.reduceAdd, Nat.reduceSub, Array.replicate_succ, Array.replicate_zero, List.push_toArray, List.append_toArray, List.nil_append, List.cons_append]
  go_wp2_with (go_at_call 34; refine (HT.out _).mono ?_; rintro e w' ⟨rfl, rfl⟩)
  clear HT
  have c0 : ((w.alloc (.cells #[.slice b ys.length bcap] 22)).alloc (.cells #[.slice a xs.length cap, .slice b ys.length bcap] 22)).cell? ⟨w.heap.size, 0, none⟩ = some (.slice b ys.length bcap) := cellOld (cellNew rfl rfl)
  have f0 : ((w.alloc (.cells #[.slice b ys.length bcap] 22)).alloc (.cells #[.slice a xs.length cap, .slice b ys.length bcap] 22)).frozen? ⟨w.heap.size, 0, none⟩ = false := freeOld (freeNew rfl) (by simp)
  have z0 : w.heap.size < ((w.alloc (.cells #[.slice b ys.length bcap] 22)).alloc (.cells #[.slice a xs.length cap, .slice b ys.length bcap] 22)).heap.size := by simp; omega
  generalize (w.alloc (.cells #[.slice b ys.length bcap] 22)).alloc (.cells #[.slice a xs.length cap, .slice b ys.length bcap] 22) = W1 at *
  go_still_tail 5, (by kernel_rfl)
  still_call (HI1.out _ rfl)
  repeat still_step
  still_call (HI2.out _ rfl)
  repeat still_step
  refine wpStill_nil ?_
  change wpList _ _ _ _ _ W1.drew
  have hlb1 : 1 ≤ lb := by
    have h1 := HLB.out
    have h2 : norm ys ≠ [] := fun e => by rw [norm_eq_nil] at e; omega
    have h3 : 0 < (norm ys).length := List.length_pos_iff.2 h2
    omega
  have hlb0 : ((lb : Int) == 0) = false := by simp; omega
  have hlb2 : lb ≤ 80 := by have := HLB.out; have := norm_length_le ys; omega
  have hla2 : la ≤ 80 := by have := HLA.out; have := norm_length_le xs; omega
  have hlac : la ≤ cap := by
    have h1 := HLA.out
    have h2 := norm_length_le xs
    obtain ⟨_, _, e, h3, _⟩ := HA.out
    cases e
    omega
  obtain ⟨L, hL⟩ : ∃ L : Nat, max ((la : Int) - (lb : Int) + 1) 0 = (L : Int) := ⟨(max ((la : Int) - (lb : Int) + 1) 0).toNat, by omega⟩
  have hLla : L ≤ la := by omega
  have HL : Hid (max ((la : Int) - (lb : Int) + 1) 0 = (L : Int)) := hL
  have hmk := fun W => run_make_words (lb + 1) W (by omega)
  simp only [Int.natCast_add, Int.cast_ofNat_Int] at hmk
  have hmk2 := fun W => run_make_words L W (by omega)
  go_wp2_with fail
  have hsA : Sl w (.slice a la cap) (norm xs) := by
    obtain ⟨a', cap', e, g1, g2, g3, g4⟩ := HA.out
    cases e
    exact ⟨a, cap, by rw [HLA.out], by have := HLA.out; omega, g2, g3, g4.norm⟩
  have hsB : Sl w (.slice b lb bcap) (norm ys) := by
    obtain ⟨a', cap', e, g1, g2, g3, g4⟩ := HB.out
    cases e
    exact ⟨b, bcap, by rw [HLB.out], by have := HLB.out; have := norm_length_le ys; omega, g2, g3, g4.norm⟩
  have hb2 : Below w.heap.size w (W1.setCell ⟨w.heap.size, 0, none⟩ (.slice b lb bcap)) := hb0.setCell (Nat.le_refl _) _
  have c2 : (W1.setCell ⟨w.heap.size, 0, none⟩ (.slice b lb bcap)).cell? ⟨w.heap.size, 0, none⟩ = some (.slice b lb bcap) := World.cell?_setCell_same' _ _ _ (by rw [c0]; rfl)
  have z2 : (W1.setCell ⟨w.heap.size, 0, none⟩ (.slice b lb bcap)).heap.size = W1.heap.size := by simp [World.setCell]
  generalize W1.setCell ⟨w.heap.size, 0, none⟩ (.slice b lb bcap) = W2 at *
  rw [← z2] at z0 ⊢
  clear c0 f0 hb0 HI1 HI2 z2 W1
  have hb3 : Below w.heap.size w ((W2.alloc (.cells (wvs .u64 (List.replicate (lb + 1) 0)).toArray 41)).alloc (.cells #[.slice (some ⟨W2.heap.size, 0, none⟩) (lb + 1) (lb + 1)] 22)) := (hb2.alloc (by omega) _).alloc (by simp; omega) _
  have c3 : ((W2.alloc (.cells (wvs .u64 (List.replicate (lb + 1) 0)).toArray 41)).alloc (.cells #[.slice (some ⟨W2.heap.size, 0, none⟩) (lb + 1) (lb + 1)] 22)).cell? ⟨w.heap.size, 0, none⟩ = some (.slice b lb bcap) := cellOld (cellOld c2)
  have c8 : ((W2.alloc (.cells (wvs .u64 (List.replicate (lb + 1) 0)).toArray 41)).alloc (.cells #[.slice (some ⟨W2.heap.size, 0, none⟩) (lb + 1) (lb + 1)] 22)).cell? ⟨W2.heap.size + 1, 0, none⟩ = some (.slice (some ⟨W2.heap.size, 0, none⟩) (lb + 1) (lb + 1)) := cellNew (by simp) rfl
  have k3 : Blk .u64 41 ((W2.alloc (.cells (wvs .u64 (List.replicate (lb + 1) 0)).toArray 41)).alloc (.cells #[.slice (some ⟨W2.heap.size, 0, none⟩) (lb + 1) (lb + 1)] 22)) W2.heap.size (List.replicate (lb + 1) 0) := (Blk.new .u64 41 W2 _).alloc _
  have z3 : W2.heap.size + 1 < ((W2.alloc (.cells (wvs .u64 (List.replicate (lb + 1) 0)).toArray 41)).alloc (.cells #[.slice (some ⟨W2.heap.size, 0, none⟩) (lb + 1) (lb + 1)] 22)).heap.size := by simp
  generalize (W2.alloc (.cells (wvs .u64 (List.replicate (lb + 1) 0)).toArray 41)).alloc (.cells #[.slice (some ⟨W2.heap.size, 0, none⟩) (lb + 1) (lb + 1)] 22) = W3 at *
  replace hb3 : Below w.heap.size w W3.drew := hb3.drew
  replace c3 : W3.drew.cell? ⟨w.heap.size, 0, none⟩ = some (.slice b lb bcap) := c3
  replace c8 : W3.drew.cell? ⟨W2.heap.size + 1, 0, none⟩ = some (.slice (some ⟨W2.heap.size, 0, none⟩) (lb + 1) (lb + 1)) := c8
  replace k3 : Blk .u64 41 W3.drew W2.heap.size (List.replicate (lb + 1) 0) := k3
  replace z3 : W2.heap.size + 1 < W3.drew.heap.size := z3
  generalize W3.drew = W3 at *
  obtain ⟨rb, hrb⟩ : ∃ rb, rb = W2.heap.size := ⟨_, rfl⟩
  rw [← hrb] at z0 c8 k3 z3 ⊢
  clear hrb hb2 c2
  obtain ⟨ahi, hsl, hahi, hrhi, hlax⟩ := slice_from (hsA.fresh (S := fun k => k = rb) hb3 (by intro k hk; omega)) hLla
  have hlen2 : (xs.length : Int) ≤ 80 := by omega
  obtain ⟨W4, hcp, hb4, hbut4⟩ := run_copy_words (S := fun k => k = rb) (n := lb + 1) (dCap := lb + 1) (sCap := cap - L) (a := ahi) (ys := (norm xs).drop L) (w := W3.drew) 3 k3 (by simp) hahi hrhi
  rw [show ((norm xs).drop L).length = la - L by rw [List.length_drop, hlax]] at hcp hb4
  have hcnt : min (la - L) (lb + 1) = la - L := by omega
  rw [hcnt] at hcp hb4
  clear hcnt hlax
  go_still_tail 5, (by kernel_rfl)
  change wpList _ _ _ _ _ W3.drew
  go_wp2_with fail
  refine (bitsDown_any _ _ _ _).mono ?_
  rintro e W7 ⟨rfl, hW7⟩
  simp only [World.size_alloc] at hW7 ⊢
  have hbB : Below w.heap.size w W4 := hbut4.below hb3.drew (by omega) hb3.size
  have c3' : W4.cell? ⟨w.heap.size, 0, none⟩ = some (.slice b lb bcap) := (World.cell?_of_block (hbut4.block _ (by show w.heap.size < W3.heap.size; omega) (by show w.heap.size ≠ rb; omega))).trans c3
  have c8' : W4.cell? ⟨rb + 1, 0, none⟩ = some (.slice (some ⟨rb, 0, none⟩) (lb + 1) (lb + 1)) := (World.cell?_of_block (hbut4.block _ (by show rb + 1 < W3.heap.size; omega) (by show rb + 1 ≠ rb; omega))).trans c8
  have hz4 : rb + 1 < W4.heap.size := Nat.lt_of_lt_of_le z3 hbut4.size
  obtain ⟨qb, hqb⟩ : ∃ qb, qb = W4.heap.size := ⟨_, rfl⟩
  have z7 : W7.heap.size = qb + 1 + 1 + 1 := by rw [hW7, hqb]; simp
  have b7 : Below w.heap.size w W7 := by rw [hW7]; exact ((hbB.alloc (by omega) _).alloc (by simp; omega) _).alloc (by simp; omega) _
  have c37 : W7.cell? ⟨w.heap.size, 0, none⟩ = some (.slice b lb bcap) := by rw [hW7]; exact cellOld (cellOld (cellOld c3'))
  have c87 : W7.cell? ⟨rb + 1, 0, none⟩ = some (.slice (some ⟨rb, 0, none⟩) (lb + 1) (lb + 1)) := by rw [hW7]; exact cellOld (cellOld (cellOld c8'))
  have c97 : W7.cell? ⟨qb + 1, 0, none⟩ = some (.slice (some ⟨qb, 0, none⟩) L L) := by rw [hW7, hqb]; exact cellOld (cellNew (by simp) rfl)
  have cl7 : W7.cell? ⟨qb + 1 + 1, 0, none⟩ = some (.slice a L cap) := by rw [hW7, hqb]; exact cellNew (by simp) rfl
  have r7 : Blk .u64 41 W7 rb (((norm xs).drop L).take (la - L) ++ (List.replicate (lb + 1) 0).drop (la - L)) := by rw [hW7]; exact ((hb4.alloc _).alloc _).alloc _
  have q7 : Blk .u64 41 W7 qb (List.replicate L 0) := by rw [hW7, hqb]; exact ((Blk.new .u64 41 W4 _).alloc _).alloc _
  rw [← hqb]
  have hlarb : rb + 1 < qb := by omega
  clear hW7 hbB c3' c8' hz4 hqb hbut4 hb4 hcp hrhi hahi hsl c8 k3 z3 c3 hb3 hmk hmk2 W4 W2
  go_wp2_with fail
  refine wp_frame (fun T hT => ?_)
  obtain ⟨lo, hlo⟩ : ∃ lo, lo = val ((norm xs).take L) := ⟨_, rfl⟩
  obtain ⟨r0, hr0⟩ : ∃ r0, r0 = val ((norm xs).drop L) := ⟨_, rfl⟩
  have hwx := norm_wf hx
  have hlow : ((norm xs).take L).length = L := by have := HLA.out; rw [List.length_take]; omega
  have hsL : SlS (fun k => qb + 1 + 1 + 1 ≤ k ∨ k = rb ∨ k = qb) .u64 W7 (.slice a L cap) ((norm xs).take L) := by
    obtain ⟨a', cap', e, g1, g2, g3, g4⟩ := hsA.fresh (S := fun k => qb + 1 + 1 + 1 ≤ k ∨ k = rb ∨ k = qb) b7 (by intro k hk; omega)
    cases e
    exact ⟨a, cap, by rw [hlow], by omega, g2, g3, g4.take L⟩
  have hr0b : r0 < val ys := by
    have h1 := val_lt (hwx.drop L)
    have h2 : norm ys ≠ [] := fun e => by rw [norm_eq_nil] at e; omega
    have h3 := val_ge_of_last h2 (norm_last h2)
    rw [norm_val, ← HLB.out] at h3
    have h4 : W64 ^ ((norm xs).drop L).length ≤ W64 ^ (lb - 1) := Nat.pow_le_pow_right W64_pos (by have := HLA.out; rw [List.length_drop]; omega)
    omega
  have hst0 : DvI w w.heap.size rb qb (.slice b lb bcap) (.slice (some ⟨rb, 0, none⟩) (lb + 1) (lb + 1)) (.slice (some ⟨qb, 0, none⟩) L L) lb (r0, List.replicate L 0) W7 :=
    ⟨b7, by omega, c37, c87, c97, ⟨_, r7, by have := HLA.out; simp; omega, ((hwx.drop _).take _).append ((Wf.zeros _).drop _), by
      have := HLA.out
      rw [List.drop_replicate, val_append, val_zeros, List.take_of_length_le (by rw [List.length_drop]; omega), hr0]; simp⟩, q7⟩
  have hstops := bitsDown_stops (N := 64 * L) (lo := lo) (hwx.take L) (by rw [hlow]; omega) (by rw [hlow]) hlo 2 (by omega) (qb + 1 + 1) (B := qb + 1 + 1 + 1) (rb := rb) (qb := qb) (by omega) (by omega) (by omega) W7 (by omega) cl7 hsL
  refine wpIn_wide.1 (wpIn_rangeFunc_ownG (n := 3) rfl (by omega) (by rw [hT]; rfl) trivial (enters_of Try.func54 (by kernel_rfl) rfl) hstops (fun h k => h.trans k) (KpD.putObj (by omega)) (Below.refl _ _) (fun _ => rfl)
    (fun pre W => DvI w w.heap.size rb qb (.slice b lb bcap) (.slice (some ⟨rb, 0, none⟩) (lb + 1) (lb + 1)) (.slice (some ⟨qb, 0, none⟩) L L) lb (dsteps (val ys) (64 * L) lo (r0, List.replicate L 0) (pre.map (·.1))) W)
    (fun _ _ _ => False) (DvI.own _ (by omega)) (fun _ _ _ _ _ hs _ _ => hs) hst0
    (fun x => { tmps := (((T.setIfInBounds 47 (.int .i64 ((64 * L - 1 - x.1 : Nat) : Int))).setIfInBounds 48 (.int .u64 ((lo / 2 ^ (64 * L - 1 - x.1) % 2 : Nat) : Int))).setIfInBounds 10 (.int .i64 ((64 * L - 1 - x.1 : Nat) : Int))).setIfInBounds 11 (.int .u64 ((lo / 2 ^ (64 * L - 1 - x.1) % 2 : Nat) : Int)), defers := [] })
    ?assign ?body ?done ?stop)
  case assign =>
    intro l x W K hK
    rw [hT] at hK ⊢
    clear hT hlo hr0 hlow hst0 hstops hsL z7 b7 c37 c87 c97 cl7 r7 q7 hL T
    simp only [encBit, List.zip_toArray, List.zip_cons_cons, List.zip_nil_right, List.foldl_toArray', List.foldl_cons, List.foldl_nil, List.setIfInBounds_toArray, List.set_cons_succ, List.set_cons_zero] at hK ⊢
    gi_wp2
    exact hK
  case body =>
    rintro l pre x W hI _
    rw [hT]
    clear hT hst0 hstops hsL z7 b7 c37 c87 c97 cl7 r7 q7 hL T hlow
    simp only [List.setIfInBounds_toArray, List.set_cons_succ, List.set_cons_zero]
    have hvy : val (norm ys) = val ys := norm_val ys
    have hwy := norm_wf hy
    refine wpIn_mono (Q := DvQ W7.heap.size (qb + 1 + 1 + 1) w w.heap.size rb qb (.slice b lb bcap) (.slice (some ⟨rb, 0, none⟩) (lb + 1) (lb + 1)) (.slice (some ⟨qb, 0, none⟩) L L) lb (dstep (val ys) (64 * L) lo (dsteps (val ys) (64 * L) lo (r0, List.replicate L 0) (pre.map (·.1))) x.1) W) ?_ ?_
    rotate_left
    · rintro e a' W' ⟨rfl, h1, h2, h3⟩
      exact ⟨h1, h2, by dsimp only; rw [List.map_append, List.map_cons, List.map_nil, dsteps_snoc]; exact h3⟩
    have hinv := dsteps_inv (n := 64 * L) (lo := lo) (l := L) (b := val ys) (st := (r0, List.replicate L 0)) ⟨hr0b, Wf.zeros _, by simp⟩ (pre.map (·.1))
    have hxlt := x.2
    generalize dsteps (val ys) (64 * L) lo (r0, List.replicate L 0) (pre.map (·.1)) = st at *
    obtain ⟨r, q⟩ := st
    unfold dstep
    obtain ⟨p, hp⟩ : ∃ p, p = 64 * L - 1 - x.1 := ⟨_, rfl⟩
    have hpL : p / 64 < L := by omega
    obtain ⟨bit, hbit⟩ : ∃ bit, bit = lo / 2 ^ p % 2 := ⟨_, rfl⟩
    have hbit1 : bit ≤ 1 := by omega
    have hp63 : (p : Int) < 64000 := by omega
    simp only [← hp, ← hbit]
    obtain ⟨hbel, hsz, c3, c8, c9, ⟨rs, hrs, hrl, hrw, hrv⟩, hq⟩ := hI
    have hrlt : r < val ys := hinv.lt
    have hql : q.length = L := hinv.len
    have hqw : Wf q := hinv.wf
    simp only at hrv hq
    clear hinv hp hbit hlo hr0 hxlt
    have hylt : val ys < W64 ^ lb := by
      have h1 := val_lt hwy
      rw [hvy, ← HLB.out] at h1
      exact h1
    have hroom : 2 * val rs + bit < W64 ^ rs.length := by
      rw [hrl, hrv, Nat.pow_succ]
      have : W64 ^ lb * 2 ≤ W64 ^ lb * W64 := Nat.mul_le_mul_left _ (by rw [W64_eq]; omega)
      omega
    have hdw := double_whole hrw bit hroom
    have hul := upd_length rs 0 (lb + 1) (mn 1 bit (fun i => rs.getD (0 + i) 0) (fun i => rs.getD (0 + i) 0)) (by omega)
    have hD := double_any (ws := rs) rb 0 (lb + 1) (lb + 1) bit W (by omega) (by omega) hrs hrw hbit1
    rw [hrl] at hul
    rw [hrl, hrv] at hdw
    generalize upd rs 0 (lb + 1) (mn 1 bit (fun i => rs.getD (0 + i) 0) (fun i => rs.getD (0 + i) 0)) = rs1 at *
    have hrlt1 := hrs.lt
    obtain ⟨hrw1, hrv1⟩ := hdw
    -- what each call comes to, in whatever world it is made
    have hcells : ∀ W1, But rb W W1 → W1.cell? ⟨w.heap.size, 0, none⟩ = some (.slice b lb bcap) ∧ W1.cell? ⟨rb + 1, 0, none⟩ = some (.slice (some ⟨rb, 0, none⟩) (lb + 1) (lb + 1)) ∧ W1.cell? ⟨qb + 1, 0, none⟩ = some (.slice (some ⟨qb, 0, none⟩) L L) := by
      intro W1 hb
      refine ⟨(World.cell?_of_block (hb.block _ (World.block_lt_of_cell? W _ c3) (by show w.heap.size ≠ rb; omega))).trans c3, (World.cell?_of_block (hb.block _ (World.block_lt_of_cell? W _ c8) (by show rb + 1 ≠ rb; omega))).trans c8, (World.cell?_of_block (hb.block _ (World.block_lt_of_cell? W _ c9) (by show qb + 1 ≠ rb; omega))).trans c9⟩
    have hqk : ∀ W1, But rb W W1 → Blk .u64 41 W1 qb q := fun W1 hb => hq.carry (hb.block qb hq.lt (by omega))
    have hbl : ∀ W1, But rb W W1 → Below w.heap.size w W1 := fun W1 hb => hb.below hbel (by omega) hbel.size
    have hsb : ∀ W1, But rb W W1 → SlS (fun k => k = rb) .u64 W1 (.slice b lb bcap) (norm ys) := fun W1 hb => hsB.fresh (hbl W1 hb) (by intro k hk; omega)
    have hcmp : ∀ W1, But rb W W1 → Blk .u64 41 W1 rb rs1 → Calls Try.prog 16 #[.slice (some ⟨rb, 0, none⟩) (lb + 1) (lb + 1), .slice b lb bcap] W1 fun e w' => e = .returned (.int .i64 (cmp3 (2 * r + bit) (val ys))) ∧ ∃ n, w' = W1.drewN n := by
      intro W1 hb hk
      have := Cmp_any W1 (Blk.slN hk hul (by omega) (S := fun _ => False) (fun h => h)) (hsb W1 hb) hrw1 hwy
      rwa [hrv1, hvy] at this
    have htake : val ys ≤ 2 * r + bit → ∃ rs2, rs2.length = lb + 1 ∧ Wf rs2 ∧ val rs2 = 2 * r + bit - val ys ∧ ∀ W1 n, But rb W W1 → Blk .u64 41 W1 rb rs1 → Calls Try.prog 37 #[.slice (some ⟨rb, 0, none⟩) (lb + 1) (lb + 1), .slice b lb bcap] (W1.drewN n) fun e w' => e = .returned (.tuple #[]) ∧ But rb W w' ∧ Blk .u64 41 w' rb rs2 := by
      intro hle
      have hsub := sub_whole hrw1 hwy (by rw [hrv1, hvy]; exact hle)
      rw [hul, hrv1, hvy] at hsub
      refine ⟨_, (upd_length rs1 0 (lb + 1) _ (by omega)).trans hul, hsub.1, hsub.2, fun W1 n hb hk => ?_⟩
      exact (takeFrom_any (v := .slice b lb bcap) (ws := rs1) (ys := norm ys) rb 0 (lb + 1) (lb + 1) (W1.drewN n) (by omega) (by omega) hk ((hsb W1 hb).heap rfl)).mono fun e w' ⟨he, h1, h2⟩ => ⟨he, hb.trans ((But.refl rb W1).drewN n |>.trans h1), h2⟩
    have hdb := hD
    have HD := Lib.hid hdb
    have HC := Lib.hid hcmp
    have HK := Lib.hid hcells
    have HQk := Lib.hid hqk
    have HBl := Lib.hid hbl
    have HR1 := Lib.hid (And.intro hul (And.intro hrw1 hrv1))
    have HQ := Lib.hid (And.intro hql hqw)
    have HPL := Lib.hid hpL
    have HRs := Lib.hid hrs
    change Code.wpIn _ 1 _ _ _ _ _
    have hd1 : 1 ≤ 1 := Nat.le_refl _
    by_cases hge : val ys ≤ 2 * r + bit
    · obtain ⟨rs2, t1, t2, t3, t4⟩ := htake hge
      rw [if_pos hge]
      have HT := Lib.hid t4
      have HTv := Lib.hid (And.intro t1 (And.intro t2 t3))
      have hc0 : 0 ≤ cmp3 (2 * r + bit) (val ys) := by
        rcases Nat.eq_or_lt_of_le hge with e | hlt
        · rw [cmp3_eq e.symm]; omega
        · rw [cmp3_gt hlt]; omega
      generalize cmp3 (2 * r + bit) (val ys) = d at *
      clear t1 t2 t3 t4 htake hD hdb hcmp hcells hqk hbl hsb hul hrw1 hrv1 hq hql hqw hrl hrv hrw hrs hroom hylt hvy hbel hge hwx hwy hpos hr0b hpL
      repeat (first | go_values | gi_guarded | gi_step | gi_upon)
      refine ⟨trivial, ?_⟩
      gi_at_call 40
      refine (CallsIn.inRound l (callsIn_wide.2 HD.out)).mono ?_
      rintro e W1 ⟨rfl, hb1, hk1⟩
      have hcc := HK.out W1 hb1
      obtain ⟨d3, d8, d9⟩ := hcc
      have HC1 := Lib.hid (HC.out W1 hb1 hk1)
      have HT1 := Lib.hid (fun n => HT.out W1 n hb1 hk1)
      clear hb1 hk1
      dsimp only
      repeat (first | go_values | gi_guarded | gi_step | gi_upon)
      refine ⟨trivial, ?_⟩
      gi_at_call 16
      refine (CallsIn.inRound l (callsIn_wide.2 HC1.out)).mono ?_
      rintro e W2 ⟨rfl, n2, rfl⟩
      dsimp only
      repeat (first | go_values | gi_guarded | gi_step | gi_upon)
      refine ⟨trivial, ?_⟩
      gi_at_call 37
      refine (CallsIn.inRound l (callsIn_wide.2 (HT1.out _))).mono ?_
      rintro e W3 ⟨rfl, hb3, hk3⟩
      have hcc := HK.out W3 hb3
      obtain ⟨e3, e8, e9⟩ := hcc
      have hq3 := HQk.out W3 hb3
      have hcq := hq3.cell (p / 64) (by have := HQ.out.1; have := HPL.out; omega)
      have hfq := hq3.free (p / 64) none
      obtain ⟨y, hy0⟩ : ∃ y, q.getD (p / 64) 0 = y := ⟨_, rfl⟩
      have hyw : y < W64 := by rw [← hy0]; exact HQ.out.2.getD _
      rw [hy0] at hcq
      have hpi : (p : Int) / 64 < (L : Int) := by have := HPL.out; omega
      have HB3 := Lib.hid hb3
      have HK3 := Lib.hid hk3
      have HQ3 := Lib.hid hq3
      have HY0 := Lib.hid hy0
      have HYw := Lib.hid hyw
      clear hb3 hk3 hq3 hy0 hyw d3 d8 d9 c3 c8 c9 HC1 HT1 hp63
      dsimp only
      repeat (first | go_values | gi_guarded | gi_step | gi_upon)
      have hmx : Try.prog.follows .mixedOrders = true := by kernel_rfl
      have hpi0 : 0 ≤ (p : Int) / 64 := by omega
      have hpi1 : ((p : Int) / 64).toNat = p / 64 := by omega
      have hL80 : (L : Int) ≤ 80 := by omega
      have hw1 : IntKind.i64.wrap ((p : Int) / 64) = (p : Int) / 64 := IntWalk.i64_in _ (by omega)
      have hw2 : (p : Int).tmod 64 = (p : Int) % 64 := Int.tmod_eq_emod_of_nonneg (by omega)
      have hm0 : 0 ≤ (p : Int) % 64 := by omega
      have hm1 : (p : Int) % 64 ≤ 64 := by omega
      have hm2 : ((p : Int) % 64).toNat = p % 64 := by omega
      refine wpIn_region_still_tail_round (l := l) 10 (fun ⟨_, _, h⟩ => Exit.noConfusion h.1) hmx (by kernel_rfl) (by kernel_rfl) ?_
      simp only [List.take_succ_cons, List.take_zero, List.drop_succ_cons, List.drop_zero]
      repeat still_step
      refine wpStill_nil ?_
      change wpList _ _ _ _ _ W3.drew
      clear hw1 hw2 hm0 hm1 hm2 hpi0 hpi1 hL80
      go_wp2_with fail
      have hb3 := HB3.out
      have hv : (.int .u64 (bits .or .u64 (y : Int) (IntKind.u64.wrap (2 ^ (p % 64)))) : Value) = .int .u64 ((q.getD (p / 64) 0 ||| 2 ^ (p % 64) : Nat) : Int) := by
        rw [HY0.out]
        exact congrArg (Value.int .u64) (or_bit y (p % 64) HYw.out (Nat.mod_lt _ (by omega)))
      rw [hv]
      have hne3 : ∀ {k : Nat} {u : Value}, k ≠ qb → ∀ {vv : Value}, W3.cell? ⟨k, 0, none⟩ = some vv → ((W3.setCell ⟨qb, p / 64, none⟩ u).drew).cell? ⟨k, 0, none⟩ = some vv := fun hk _ h => cell_set_far (p := ⟨qb, p / 64, none⟩) (a := ⟨_, 0, none⟩) (fun e => hk e.symm) h
      have hkd : KpD (qb + 1 + 1 + 1) rb qb W3 ((W3.setCell ⟨qb, p / 64, none⟩ (.int .u64 ((q.getD (p / 64) 0 ||| 2 ^ (p % 64) : Nat) : Int))).drew) := ⟨by simp [World.drew, World.setCell], fun k _ _ h2 => Below.heap_setCell _ _ _ _ h2⟩
      have hkf : KeepsFrom W7.heap.size W3 ((W3.setCell ⟨qb, p / 64, none⟩ (.int .u64 ((q.getD (p / 64) 0 ||| 2 ^ (p % 64) : Nat) : Int))).drew) := ⟨by simp [World.drew, World.setCell], fun i o _ hi ho => (Below.heap_setCell _ _ _ _ (fun e => by subst e; rw [show W3.heap[i]? = _ from HQ3.out] at hi; cases hi; cases ho)).trans hi⟩
      have hB3 := HBl.out _ hb3
      exact ⟨rfl, (hb3.keepsFrom HRs.out _).trans hkf, (hb3.kpD hsz).trans hkd, (hB3.setCell (by show w.heap.size ≤ qb; omega) _).drew, Nat.le_trans (Nat.le_trans hsz hb3.size) hkd.size, hne3 (by omega) e3, hne3 (by omega) e8, hne3 (by omega) e9, ⟨rs2, HK3.out.setOther ⟨qb, p / 64, none⟩ _ (by show qb ≠ rb; omega), HTv.out.1, HTv.out.2.1, HTv.out.2.2⟩, HQ3.out.set (p / 64) _⟩
    · rw [if_neg hge]
      have hc0 : ¬ 0 ≤ cmp3 (2 * r + bit) (val ys) := by rw [cmp3_lt (by omega)]; omega
      generalize cmp3 (2 * r + bit) (val ys) = d at *
      clear htake hD hdb hcmp hcells hqk hbl hsb hul hrw1 hrv1 hq hql hqw hrl hrv hrw hrs hroom hylt hvy hbel hge hwx hwy hpos hr0b hpL
      repeat (first | go_values | gi_guarded | gi_step | gi_upon)
      refine ⟨trivial, ?_⟩
      gi_at_call 40
      refine (CallsIn.inRound l (callsIn_wide.2 HD.out)).mono ?_
      rintro e W1 ⟨rfl, hb1, hk1⟩
      have hcc := HK.out W1 hb1
      obtain ⟨d3, d8, d9⟩ := hcc
      have HC1 := Lib.hid (HC.out W1 hb1 hk1)
      have HB1 := Lib.hid hb1
      have HK1 := Lib.hid hk1
      clear hb1 hk1
      dsimp only
      repeat (first | go_values | gi_guarded | gi_step | gi_upon)
      refine ⟨trivial, ?_⟩
      gi_at_call 16
      refine (CallsIn.inRound l (callsIn_wide.2 HC1.out)).mono ?_
      rintro e W2 ⟨rfl, n2, rfl⟩
      dsimp only
      repeat (first | go_values | gi_guarded | gi_step | gi_upon)
      have hb1 := HB1.out
      exact ⟨rfl, (hb1.drewN n2).keepsFrom HRs.out _, (hb1.drewN n2).kpD hsz, below_drewN (HBl.out _ hb1) _, Nat.le_trans hsz hb1.size, d3, d8, d9, ⟨rs1, HK1.out, HR1.out.1, HR1.out.2.1, HR1.out.2.2⟩, HQk.out _ (hb1.drewN n2)⟩
  case done =>
    rintro D ys' W hyD hys hst hK
    rw [hT]
    have hDq : qb + 1 + 1 + 1 ≤ D := by omega
    clear hT hst0 hstops hsL z7 b7 c37 c87 c97 cl7 r7 q7 T
    rw [hys, upto_vals _ _ (Nat.le_refl _)] at hst
    have hlo2 : lo < 2 ^ (64 * L) := by
      have := val_lt (hwx.take L)
      rw [hlow, W64_two, ← Nat.pow_mul] at this
      rw [hlo]; exact this
    obtain ⟨hq, hr⟩ := dsteps_all hr0b hlo2
    have hxv : lo + 2 ^ (64 * L) * r0 = val xs := by
      have := val_take_drop (norm xs) L (by have := HLA.out; omega)
      rw [norm_val, W64_two, ← Nat.pow_mul, ← hlo, ← hr0] at this
      exact this.symm
    rw [hxv] at hq hr
    have hinv := dsteps_inv (n := 64 * L) (lo := lo) (l := L) (b := val ys) (st := (r0, List.replicate L 0)) ⟨hr0b, Wf.zeros _, by simp⟩ (List.range (64 * L))
    generalize dsteps (val ys) (64 * L) lo (r0, List.replicate L 0) (List.range (64 * L)) = st at *
    obtain ⟨r, q⟩ := st
    have hql : q.length = L := hinv.len
    have hqw : Wf q := hinv.wf
    obtain ⟨hbel, hsz, c3, c8, c9, ⟨rs, hrs, hrl, hrw, hrv⟩, hqb⟩ := hst
    simp only at hq hr hrv hqb
    clear hinv hys hxv hlo2 hlo hr0 hr0b hlow hwx r0 lo
    obtain ⟨lq, hlq⟩ : ∃ lq, lq = (norm q).length := ⟨_, rfl⟩
    obtain ⟨lr, hlr⟩ : ∃ lr, lr = (norm rs).length := ⟨_, rfl⟩
    have hi1 := fun (W' : World) (hW : W'.heap = W.heap) => inForm_exact W' ((hqb.slN hql (by omega) (S := fun _ => False) (fun h => h)).heap hW) hlq
    have hi2 := fun (W' : World) (hW : W'.heap = W.heap) => inForm_exact W' ((hrs.slN hrl (by omega) (S := fun _ => False) (fun h => h)).heap hW) hlr
    have HI1 := Lib.hid hi1
    have HI2 := Lib.hid hi2
    have HQ := Lib.hid (And.intro hql (And.intro hqw hq))
    have HR := Lib.hid (And.intro hrl (And.intro hrw (hrv.trans hr)))
    have HLQ := Lib.hid hlq
    have HLR := Lib.hid hlr
    have HQB := Lib.hid hqb
    have HRB := Lib.hid hrs
    clear hi1 hi2 hql hqw hq hrl hrw hrv hr hlq hlr hqb hrs
    dsimp only
    go_wp2_with fail
    go_still_tail 4, (by kernel_rfl)
    repeat still_step
    still_call (HI1.out _ rfl)
    repeat still_step
    still_call (HI2.out _ rfl)
    repeat still_step
    refine wpStill_nil ?_
    change wpList _ _ _ _ _ W.drew
    go_wp2_with fail
    have hKd : W.drew.heap[D]? = some (.deferred (some [])) := hK
    refine ⟨by simp, .inl ⟨_, _, rfl, run_takeDeferred hKd, ?_⟩⟩
    have hk : ∀ i, i < D ∨ D < i → (W.drew.putObj D (.deferred none)).heap[i]? = W.heap[i]? := fun i hi => World.putObj_heap_other (by omega)
    have hgo := grownBy_putObj' W.drew D (.deferred none)
    have hb9 : Below w.heap.size w (W.drew.putObj D (.deferred none)) := ⟨hbel.os, hbel.tape, hbel.output, Nat.le_trans hbel.size hgo.size, fun i hi => (hk i (by omega)).trans (hbel.block i hi)⟩
    have hq9 : Blk .u64 41 (W.drew.putObj D (.deferred none)) qb q := HQB.out.carry (hk qb (by omega))
    have hr9 : Blk .u64 41 (W.drew.putObj D (.deferred none)) rb rs := HRB.out.carry (hk rb (by omega))
    have hq' : Sl (W.drew.putObj D (.deferred none)) (.slice (some ⟨qb, 0, none⟩) lq L) (toW (val xs / val ys)) := by
      have hn : norm q = toW (val xs / val ys) := by rw [← HQ.out.2.2, toW_val HQ.out.2.1]
      have h1 := hq9.rd 0 q.length (by omega) (S := fun _ => False) (fun h => h)
      rw [List.drop_zero, List.take_length] at h1
      rw [← hn]
      exact ⟨_, L, by rw [HLQ.out], by rw [← HQ.out.1]; exact norm_length_le q, by omega, by simp, h1.norm⟩
    have hr' : Sl (W.drew.putObj D (.deferred none)) (.slice (some ⟨rb, 0, none⟩) lr (lb + 1)) (toW (val xs % val ys)) := by
      have hn : norm rs = toW (val xs % val ys) := by rw [← HR.out.2.2, toW_val HR.out.2.1]
      have h1 := hr9.rd 0 rs.length (by omega) (S := fun _ => False) (fun h => h)
      rw [List.drop_zero, List.take_length] at h1
      rw [← hn]
      exact ⟨_, lb + 1, by rw [HLR.out], by rw [← HR.out.1]; exact norm_length_le rs, by omega, by simp, h1.norm⟩
    exact ⟨_, results_tmp3 rfl _ _ _, _, _, rfl, hq', hr', hb9⟩
  case stop =>
    rintro D c pre W _ _ h _
    exact h.elim
end Go.Proofs.Ytocmmabpebbdaaa
