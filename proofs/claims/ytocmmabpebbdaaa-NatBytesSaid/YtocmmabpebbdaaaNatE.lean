/- Of, Cmp. -/
import Derived.Test.YtocmmabpebbdaaaNatD
import Derived.Test.YtocmmabpebbdaaaOrd
namespace Go.Proofs.Ytocmmabpebbdaaa
open Go.RowKit

theorem info_u64 : (Try.prog.info? 41).map (fun i => (i.zero, i.size, i.bytes)) = some (some (.int .u64 0), 1, 8) := by kernel_rfl
theorem size_u64 : (Try.prog.info? 41).map (·.size) = some 1 := by kernel_rfl

theorem wvs_length (k : IntKind) (xs : List Nat) : (wvs k xs).length = xs.length := by simp [wvs]
theorem madeCells_zero (k : IntKind) (n : Nat) : madeCells (Value.int k 0).cells (n * 1) = (wvs k (List.replicate n 0)).toArray := by
  apply Array.ext
  · simp [madeCells, wvs]
  · intro i h1 h2
    simp [madeCells, wvs, Value.cells, Nat.mod_one]

/-- make([]uint64, n) -/
theorem run_make_words (n : Nat) (w : World) (hn : n ≤ 1000000000) :
    (Instr.makeSlice 22 (.int .i64 n) (.int .i64 n)).run Try.prog w = .ok (.slice (some ⟨w.heap.size, 0, none⟩) n n) (w.alloc (.cells (wvs .u64 (List.replicate n 0)).toArray 41)) := by
  obtain ⟨i, hi, hz, hs, hb⟩ := info_parts info_u64
  have := run_make (P := Try.prog) w 22 41 i (.int .u64 0) Try.underlying22 hi hz .i64 .i64 n n (by omega) (Int.le_refl _) (by rw [hb]; omega) (by omega)
  rw [this, hs, Int.toNat_natCast, madeCells_zero]

/-- copy(d, s) of words -/
theorem run_copy_words {S : Nat → Prop} {w : World} {b n dCap : Nat} {a : Option Addr} {sCap : Nat} {ws ys : List Nat} (ty : TypeId) (hb : Blk .u64 41 w b ws) (hn : n ≤ ws.length) (hnil : a = none → sCap = 0) (hr : RdS S .u64 w a ys) :
    ∃ w1, (Builtin.copy_ #[22, 22] ty #[.slice (some ⟨b, 0, none⟩) n dCap, .slice a ys.length sCap]).run Try.prog w = .ok (goInt (min ys.length n : Nat)) w1 ∧
      Blk .u64 41 w1 b (ys.take (min ys.length n) ++ ws.drop (min ys.length n)) ∧ But b w w1 := by
  have hbut : ∀ cs, But b w (w.setRow b cs) := fun cs => ⟨rfl, rfl, rfl, by simp [World.setRow], fun k _ hne => by simp only [World.setRow, Array.getElem?_modify]; rw [if_neg (by omega)]⟩
  by_cases hys : ys = []
  · subst hys
    refine ⟨w, ?_, by simpa using hb, But.refl _ _⟩
    cases a with
    | none =>
      obtain rfl := hnil rfl
      rw [show (([] : List Nat).length) = 0 from rfl, run_copy_nil (P := Try.prog) w _ _ ty 41 _ n dCap Try.underlying22 (by rw [size_u64]; rfl)]
      simp
    | some a =>
      have h := run_copy_row (P := Try.prog) w 22 22 ty 41 b 0 n dCap a 0 sCap _ 41 [] Try.underlying22 size_u64 hb (by simp) (by simp) (by simp) (by simp)
      rw [show (([] : List Nat).length) = 0 from rfl, h]
      simp only [List.length_nil, List.take_zero, List.nil_append, Nat.zero_add, List.drop_zero]
      rw [setRow_self w b _ _ _ hb]
      simp
  · rcases hr with hr | ⟨b', off, rfl, _, hc⟩
    · exact absurd hr hys
    have h := run_copy_row (P := Try.prog) w 22 22 ty 41 b 0 n dCap ⟨b', off, none⟩ ys.length sCap _ 41 (wvs .u64 (ys.take (min ys.length n))) Try.underlying22 size_u64 hb
      (by rw [wvs_length, List.length_take]; show _ = min _ _; omega) (by
        intro j v hv
        have hj : j < min ys.length n := by
          have := (List.getElem?_eq_some_iff.1 hv).1
          rw [wvs_length, List.length_take] at this
          omega
        rw [Addr.add_lit, hc j (by omega)]
        rw [← hv]
        simp [wvs, List.getD, hj, show j < ys.length by omega]) (by rw [wvs_length, List.length_take]; simp [wvs_length]; omega) (by
        intro v hv
        obtain ⟨x, _, rfl⟩ := List.mem_map.1 hv
        rfl)
    rw [wvs_length, List.length_take, Nat.min_eq_left (by omega)] at h
    refine ⟨_, h, ?_, hbut _⟩
    unfold Blk
    rw [setRow_heap w b _ _ _ _ hb]
    simp [wvs, List.map_drop]

theorem Of_any {S : Nat → Prop} {v : Value} {xs : List Nat} (w : World) (h : SlS S .u64 w v xs) (hwf : Wf xs) (hl : xs.length ≤ 1000000000) {n : Nat} (hn : n = (toW (val xs)).length) :
    Calls Try.prog 21 #[v] w fun e w' => e = .returned (.slice (some ⟨w.heap.size, 0, none⟩) n n) ∧ Below w.heap.size w w' ∧ Blk .u64 41 w' w.heap.size (toW (val xs)) := by
  subst hn
  rw [toW_val hwf]
  have hi := inForm_any w h
  have hnl := norm_length_le xs
  obtain ⟨a, cap, rfl, hlc, hcap, hnil, hr⟩ := h
  clear hr
  go_enter Try.func21, Try.ntmps21
  go_wp2_with fail
  refine hi.mono ?_
  rintro e w' ⟨⟨u, rfl, a', cap', rfl, hlc', hcap', hnil', hr'⟩, rfl⟩
  have hmk := run_make_words (norm xs).length w (by omega)
  have hb := Blk.new .u64 41 w (List.replicate (norm xs).length 0)
  obtain ⟨w1, hcp, hb1, hbut⟩ := run_copy_words (S := S) (n := (norm xs).length) (dCap := (norm xs).length) (sCap := cap') (a := a') (ys := norm xs) 3 hb (by simp) hnil' (hr'.carry fun b hlt hs => ⟨Below.heap_alloc _ _ _ hlt, hs⟩)
  rw [Nat.min_self] at hcp hb1
  have HB := Lib.hid hb1
  have HBut := Lib.hid hbut
  clear hb hb1 hbut hr' hnil' hlc' hlc hnil hi
  go_wp2
  go_ret
  have hb := HB.out
  rw [List.take_length, List.drop_of_length_le (by simp), List.append_nil] at hb
  exact ⟨rfl, HBut.out.below ((Below.refl _ w).alloc (Nat.le_refl _) _) (Nat.le_refl _) (by simp), hb⟩

/-- the library's comparison at words -/
theorem compare_u64 (x y : Nat) (w : World) :
    Calls Try.prog 42 #[.int .u64 x, .int .u64 y] w fun e w' => e = .returned (.int .i64 (cmp3 x y)) ∧ w' = w := by
  by_cases h1 : x < y
  · rw [cmp3_lt h1]
    have h2 : (x : Int) < (y : Int) := by omega
    go_enter Try.func42, Try.ntmps42
    go_wp2
    go_ret
    exact ⟨rfl, rfl⟩
  · by_cases h2 : y < x
    · rw [cmp3_gt h2]
      have h3 : (y : Int) < (x : Int) := by omega
      go_enter Try.func42, Try.ntmps42
      go_wp2
      go_ret
      exact ⟨rfl, rfl⟩
    · obtain rfl : x = y := by omega
      rw [cmp3_eq rfl]
      go_enter Try.func42, Try.ntmps42
      go_wp2
      go_ret
      exact ⟨rfl, rfl⟩
theorem compare_int (x y : Nat) (w : World) :
    Calls Try.prog 41 #[.int .i64 x, .int .i64 y] w fun e w' => e = .returned (.int .i64 (cmp3 x y)) ∧ w' = w := by
  refine (Try.cmp_Compare_int x y w).mono fun e w' ⟨he, hw⟩ => ⟨?_, hw⟩
  rw [he]
  unfold Lib.compareInt cmp3
  congr 2
  by_cases h1 : x < y
  · rw [if_pos h1, if_pos (by omega)]
  · rw [if_neg h1, if_neg (by omega)]
    by_cases h2 : y < x
    · rw [if_pos h2, if_pos (by omega)]
    · rw [if_neg h2, if_neg (by omega)]

/-- how two numbers in form compare -/
structure InForm (p q : List Nat) : Prop where
  wp : Wf p
  wq : Wf q
  lt : p.length < q.length → val p < val q
  gt : q.length < p.length → val q < val p
theorem inForm_norm {xs ys : List Nat} (hx : Wf xs) (hy : Wf ys) : InForm (norm xs) (norm ys) :=
  ⟨norm_wf hx, norm_wf hy, fun h => by rw [norm_val, norm_val]; exact val_lt_of_length hx h, fun h => by rw [norm_val, norm_val]; exact val_lt_of_length hy h⟩

set_option maxHeartbeats 1000000 in
theorem Cmp_body {a b : Option Addr} {cap bcap xl yl : Nat} {S T : Nat → Prop} (w : World) {p q : List Nat} (hpq : InForm p q)
    (hi : Calls Try.prog 36 #[.slice a xl cap] w fun e w' => RetSl S .u64 w p e ∧ w = w') (hj : Calls Try.prog 36 #[.slice b yl bcap] w fun e w' => RetSl T .u64 w q e ∧ w = w') :
    Calls Try.prog 16 #[.slice a xl cap, .slice b yl bcap] w fun e w' => e = .returned (.int .i64 (cmp3 (val p) (val q))) ∧ ∃ n, w' = w.drewN n := by
  go_enter Try.func16, Try.ntmps16
  go_wp2_with fail
  refine hi.mono ?_
  rintro e w' ⟨⟨u, rfl, a', cap', rfl, hlc', hcap', hnil', hr'⟩, rfl⟩
  clear hi
  go_wp2_with fail
  refine hj.mono ?_
  rintro e w' ⟨⟨u, rfl, a2, cap2, rfl, hlc2, hcap2, hnil2, hr2⟩, rfl⟩
  clear hj hnil' hnil2
  by_cases hlen : p.length = q.length
  · have hne : ((p.length : Int) != (q.length : Int)) = false := by simp [hlen]
    have hl1 : p.length ≤ q.length := by omega
    have hl2 : q.length ≤ p.length := by omega
    have HL := Lib.hid hlen
    clear hlen
    rcases hr' with hr' | ⟨b1, o1, rfl, _, hc1⟩
    · subst hr'
      have hq : q = [] := List.eq_nil_of_length_eq_zero (by simpa using hl2)
      subst hq
      go_wp2_with fail
      go_loopw [5] (fun i wr => i = .int .i64 (-1) ∧ wr = w) (fun i _ => 0)
      case atStart => exact ⟨rfl, rfl⟩
      case round =>
        obtain ⟨rfl, rfl⟩ := hrel
        go_wp2_with fail
        go_ret
        exact ⟨by rw [cmp3_eq rfl]; rfl, 0, rfl⟩
    rcases hr2 with hr2 | ⟨b2, o2, rfl, _, hc2⟩
    · subst hr2
      have hp : p = [] := List.eq_nil_of_length_eq_zero (by simpa using hl1)
      subst hp
      go_wp2_with fail
      go_loopw [5] (fun i wr => i = .int .i64 (-1) ∧ wr = w) (fun i _ => 0)
      case atStart => exact ⟨rfl, rfl⟩
      case round =>
        obtain ⟨rfl, rfl⟩ := hrel
        go_wp2_with fail
        go_ret
        exact ⟨by rw [cmp3_eq rfl]; rfl, 0, rfl⟩
    have HC1 := Lib.hid hc1
    have HC2 := Lib.hid hc2
    clear hc1 hc2
    go_wp2_with fail
    go_loopw [5] (fun i wr => ∃ r : Nat, wr = w.drewN r ∧ ((∃ k : Nat, k < p.length ∧ i = .int .i64 k ∧ Hid (∀ j, k + 1 ≤ j → j < p.length → p.getD j 0 = q.getD j 0)) ∨ (i = .int .i64 (-1) ∧ Hid (∀ j, j < p.length → p.getD j 0 = q.getD j 0)))) (fun i _ => (intOf i + 1).toNat)
    case atStart =>
      refine ⟨0, rfl, ?_⟩
      by_cases h0 : p.length = 0
      · exact .inr ⟨by rw [h0]; rfl, fun j hj => by omega⟩
      · exact .inl ⟨p.length - 1, by omega, congrArg (Value.int .i64) (by omega), fun j h1 h2 => by omega⟩
    case round =>
      obtain ⟨r, rfl, ⟨k, hk, rfl, he⟩ | ⟨rfl, he⟩⟩ := hrel
      · have c1 := HC1.out k hk
        have c2 := HC2.out k (by omega)
        obtain ⟨x, hx⟩ : ∃ x, p.getD k 0 = x := ⟨_, rfl⟩
        obtain ⟨y, hy⟩ : ∃ y, q.getD k 0 = y := ⟨_, rfl⟩
        rw [hx] at c1
        rw [hy] at c2
        have Hx := Lib.hid hx
        have Hy := Lib.hid hy
        clear hx hy
        have i1 : 0 ≤ (k : Int) := by omega
        have i2 : (k : Int) < (p.length : Int) := by omega
        have i3 : (k : Int) < (q.length : Int) := by omega
        go_wp2_with fail
        go_quiet (fail)
        go_wp2_with fail
        · have hne2 : ((x : Int) != (y : Int)) = true := by assumption
          go_quiet ((go_at_call 42; exact quiet_same (compare_u64 x y _)))
          go_wp2_with fail
          go_ret
          refine ⟨congrArg (fun n => Ending.returned (.int .i64 n)) ?_, _, by rw [World.drewN_drewN, World.drewN_drewN]⟩
          have hxy : x ≠ y := by intro e; rw [e] at hne2; simp at hne2
          have e1 := Hx.out
          have e2 := Hy.out
          rcases Nat.lt_or_gt_of_ne hxy with hlt | hgt
          · rw [cmp3_lt hlt, cmp3_lt (val_lt_of_word hpq.wp k HL.out hk he.out (by omega))]
          · rw [cmp3_gt hgt, cmp3_gt (val_lt_of_word hpq.wq k HL.out.symm (by omega) (fun j h1 h2 => (he.out j h1 (by omega)).symm) (by omega))]
        · have hne2 : ((x : Int) != (y : Int)) = false := by assumption
          have hxy := nat_of_bne hne2
          have e1 := Hx.out
          have e2 := Hy.out
          go_roundw
          case rel =>
            refine ⟨r + nq, rfl, ?_⟩
            have he2 : ∀ j, k ≤ j → j < p.length → p.getD j 0 = q.getD j 0 := by
              intro j h1 h2
              by_cases e : j = k
              · rw [e, e1, e2, hxy]
              · exact he.out j (by omega) h2
            by_cases h0 : k = 0
            · subst h0
              exact .inr ⟨rfl, fun j hj => he2 j (Nat.zero_le _) hj⟩
            · exact .inl ⟨k - 1, by omega, congrArg (Value.int .i64) (by omega), fun j h1 h2 => he2 j (by omega) h2⟩
          case measure => simp [intOf]
      · go_wp2_with fail
        go_ret
        exact ⟨congrArg (fun n => Ending.returned (.int .i64 n)) (cmp3_eq (val_eq_of_words HL.out he.out)).symm, r, rfl⟩
  · have hne : ((p.length : Int) != (q.length : Int)) = true := bne_iff_ne.2 (by omega)
    go_wp2_with (go_at_call 41; refine (compare_int p.length q.length _).mono ?_; rintro e w' ⟨rfl, rfl⟩)
    go_ret
    refine ⟨congrArg (fun n => Ending.returned (.int .i64 n)) ?_, 0, rfl⟩
    rcases Nat.lt_or_gt_of_ne hlen with hlt | hgt
    · rw [cmp3_lt hlt, cmp3_lt (hpq.lt hlt)]
    · rw [cmp3_gt hgt, cmp3_gt (hpq.gt hgt)]

/-- how two numbers compare -/
theorem Cmp_any {S T : Nat → Prop} {v u : Value} {xs ys : List Nat} (w : World) (h : SlS S .u64 w v xs) (h' : SlS T .u64 w u ys) (hx : Wf xs) (hy : Wf ys) :
    Calls Try.prog 16 #[v, u] w fun e w' => e = .returned (.int .i64 (cmp3 (val xs) (val ys))) ∧ ∃ q, w' = w.drewN q := by
  have hi := inForm_any w h
  have hj := inForm_any w h'
  obtain ⟨a, cap, rfl⟩ : ∃ a cap, v = .slice a xs.length cap := let ⟨a, c, e, _⟩ := h; ⟨a, c, e⟩
  obtain ⟨b, bcap, rfl⟩ : ∃ b bcap, u = .slice b ys.length bcap := let ⟨a, c, e, _⟩ := h'; ⟨a, c, e⟩
  have := Cmp_body w (inForm_norm hx hy) hi hj
  rwa [norm_val, norm_val] at this
end Go.Proofs.Ytocmmabpebbdaaa
