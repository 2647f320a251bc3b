/- Bytes with its errors; the law's own order and great. -/
import Derived.Test.YtocmmabpebbdaaaNatM
import Derived.Test.YtocmmabpebbdaaaRefK
namespace Go.Proofs.Ytocmmabpebbdaaa
open Go.RowKit

set_option maxHeartbeats 1000000 in
theorem Bytes_long {v : Value} {xs : List Nat} (w : World) (h : Sl w v xs) (i : Int) (hl : 80 < xs.length ∨ 640 < i) :
    Calls Try.prog 31 #[v, .int .i64 i] w fun e w' => RetErr w 11 e w' := by
  obtain ⟨a, an, acap, rfl⟩ := h.shape
  have hb0 : Below w.heap.size w (w.alloc (.cells #[.slice a an acap] 22)) := (Below.refl _ w).alloc (Nat.le_refl _) _
  have ht := fun (c : Nat) => tooLong1_any (w.alloc (.cells #[.slice a an acap] 22)) (h.below hb0) (b := w.heap.size) (off := 0) (cap := c) (cellNew rfl rfl)
  by_cases hx : 80 < xs.length
  · rw [decide_eq_true hx] at ht
    have HT := Lib.hid ht
    clear ht hx hl h
    go_enter Try.func31, Try.ntmps31
    go_wp2_with (go_at_call 34; refine (HT.out _).mono ?_; rintro e w' ⟨rfl, hw⟩; obtain rfl := hw)
    go_ret2
    exact ⟨rfl, hb0⟩
  · rw [decide_eq_false hx] at ht
    have hi : 640 < i := by omega
    have HT := Lib.hid ht
    clear ht hx hl h
    go_enter Try.func31, Try.ntmps31
    go_wp2_with (go_at_call 34; refine (HT.out _).mono ?_; rintro e w' ⟨rfl, hw⟩; obtain rfl := hw)
    go_ret2
    exact ⟨rfl, hb0⟩

set_option maxHeartbeats 1000000 in
theorem Bytes_arg {v : Value} {xs : List Nat} (w : World) (h : Sl w v xs) (hx : Wf xs) (i : Int) (hl : xs.length ≤ 80) (hi : i ≤ 640) (hlo : -9223372036854775808 ≤ i) (ha : i < 0 ∨ 8 * i < nbits (val xs)) :
    Calls Try.prog 31 #[v, .int .i64 i] w fun e w' => RetErr w 1 e w' := by
  obtain ⟨a, an, acap, rfl⟩ := h.shape
  have hb0 : Below w.heap.size w (w.alloc (.cells #[.slice a an acap] 22)) := (Below.refl _ w).alloc (Nat.le_refl _) _
  have ht := fun (c : Nat) => tooLong1_any (w.alloc (.cells #[.slice a an acap] 22)) (h.below hb0) (b := w.heap.size) (off := 0) (cap := c) (cellNew rfl rfl)
  have hbt := Bits_any (w.alloc (.cells #[.slice a an acap] 22)) (h.below hb0) hx (by omega)
  rw [decide_eq_false (by omega : ¬ 80 < xs.length)] at ht
  generalize nbits (val xs) = nb at *
  have HT := Lib.hid ht
  have HB := Lib.hid hbt
  clear ht hbt hl h hx
  by_cases h0 : i < 0
  · clear ha
    go_enter Try.func31, Try.ntmps31
    go_wp2_with (go_at_call 34; refine (HT.out _).mono ?_; rintro e w' ⟨rfl, hw⟩; obtain rfl := hw)
    go_ret2
    exact ⟨rfl, hb0⟩
  · have ha2 : 8 * i < (nb : Int) := by omega
    clear ha hlo
    go_enter Try.func31, Try.ntmps31
    go_wp2_with (first | (go_at_call 34; refine (HT.out _).mono ?_; rintro e w' ⟨rfl, hw⟩; obtain rfl := hw) | (go_at_call 18; refine HB.out.mono ?_; rintro e w' ⟨rfl, hw⟩; obtain rfl := hw.symm; clear hw))
    go_ret2
    exact ⟨rfl, hb0⟩

set_option maxHeartbeats 1000000 in
theorem order_any {v u : Value} {p q : List Nat} (w : World) (h : SlD w v p) (h' : SlD w u q) (hx : Dig.Wf p) (hy : Dig.Wf q) (fx : norm p = p) (fy : norm q = q) :
    Calls Try.prog 17 #[v, u] w fun e w' => e = .returned (.int .i64 (cmp3 (Dig.val p) (Dig.val q))) ∧ ∃ n, w' = w.drewN n := by
  have h1 := Less_any w h h' hx hy fx fy
  have h2 := fun (W : World) (hW : W.heap = w.heap) => Less_any W (h'.heap hW) (h.heap hW) hy hx fy fx
  obtain ⟨a, n, cap, rfl⟩ := h.shape
  obtain ⟨b, m, bcap, rfl⟩ := h'.shape
  rcases Nat.lt_trichotomy (Dig.val p) (Dig.val q) with hc | hc | hc
  · rw [decide_eq_true hc] at h1
    rw [cmp3_lt hc]
    have H1 := Lib.hid h1
    clear h1 h2 h h' hx hy fx fy hc
    go_enter Try.func17, Try.ntmps17
    go_wp2_with fail
    go_at_call 26
    refine H1.out.mono ?_
    rintro e w1 ⟨rfl, n1, rfl⟩
    go_wp2_with fail
    go_ret
    exact ⟨rfl, _, rfl⟩
  · rw [decide_eq_false (by omega)] at h1
    have h3 := h2
    simp only [decide_eq_false (by omega : ¬ Dig.val q < Dig.val p)] at h3
    rw [cmp3_eq hc]
    have H1 := Lib.hid h1
    have H2 := Lib.hid h3
    clear h1 h2 h3 h h' hx hy fx fy hc
    go_enter Try.func17, Try.ntmps17
    go_wp2_with fail
    go_at_call 26
    refine H1.out.mono ?_
    rintro e w1 ⟨rfl, n1, rfl⟩
    go_wp2_with fail
    go_at_call 26
    refine (H2.out (w.drewN n1) rfl).mono ?_
    rintro e w2 ⟨rfl, n2, rfl⟩
    go_wp2_with fail
    go_ret
    exact ⟨rfl, _, rfl⟩
  · rw [decide_eq_false (by omega)] at h1
    have h3 := h2
    simp only [decide_eq_true hc] at h3
    rw [cmp3_gt hc]
    have H1 := Lib.hid h1
    have H2 := Lib.hid h3
    clear h1 h2 h3 h h' hx hy fx fy hc
    go_enter Try.func17, Try.ntmps17
    go_wp2_with fail
    go_at_call 26
    refine H1.out.mono ?_
    rintro e w1 ⟨rfl, n1, rfl⟩
    go_wp2_with fail
    go_at_call 26
    refine (H2.out (w.drewN n1) rfl).mono ?_
    rintro e w2 ⟨rfl, n2, rfl⟩
    go_wp2_with fail
    go_ret
    exact ⟨rfl, _, rfl⟩
/-- is one of two lists longer than 100 words? -/
theorem great2_any {v u : Value} {xs ys : List Nat} {S T : Nat → Prop} (w : World) (h : SlS S .u64 w v xs) (h' : SlS T .u64 w u ys) {b off cap : Nat}
    (c0 : w.cell? ⟨b, off, none⟩ = some v) (c1 : w.cell? ⟨b, off + 1, none⟩ = some u) :
    Calls Try.prog 8 #[.slice (some ⟨b, off, none⟩) 2 cap] w fun e w' => e = .returned (.bool (decide (100 < xs.length ∨ 100 < ys.length))) ∧ w = w' := by
  obtain ⟨a, cap, rfl, hlc, hcap, hnil, hr⟩ := h
  obtain ⟨a', cap', rfl, hlc', hcap', hnil', hr'⟩ := h'
  clear hr hr' hnil hnil'
  go_enter Try.func8, Try.ntmps8
  go_wp2
  refine wp_loop_rounds 3 ?_
  rw [rounds_succ]
  go_wp2
  · have hl : 100 < (xs.length : Int) := by assumption
    have hd : decide (100 < xs.length ∨ 100 < ys.length) = true := decide_eq_true (.inl (by omega))
    go_ret
    exact ⟨by rw [hd]; rfl, rfl⟩
  · rw [rounds_succ]
    go_wp2
    · have hl : 100 < (ys.length : Int) := by assumption
      have hd : decide (100 < xs.length ∨ 100 < ys.length) = true := decide_eq_true (.inr (by omega))
      go_ret
      exact ⟨by rw [hd]; rfl, rfl⟩
    · rw [rounds_succ]
      go_wp2
      have hl : (ys.length : Int) ≤ 100 := by assumption
      have hl' : (xs.length : Int) ≤ 100 := by assumption
      have hd : decide (100 < xs.length ∨ 100 < ys.length) = false := decide_eq_false (by omega)
      go_ret
      exact ⟨by rw [hd]; rfl, rfl⟩
end Go.Proofs.Ytocmmabpebbdaaa
