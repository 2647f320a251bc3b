/- Add, Sub, Mul. -/
import Derived.Test.YtocmmabpebbdaaaNatE
namespace Go.Proofs.Ytocmmabpebbdaaa
open Go.RowKit

/-- the call hands back a number and no error; it left what was there as it was -/
def RetNum (w : World) (n : Nat) (e : Ending) (w' : World) : Prop :=
  ∃ u, e = .returned (.tuple #[u, .int .i64 0]) ∧ Sl w' u (toW n) ∧ Below w.heap.size w w'
/-- the call hands back nothing, and an error -/
def RetErr (w : World) (n : Int) (e : Ending) (w' : World) : Prop :=
  e = .returned (.tuple #[.slice none 0 0, .int .i64 n]) ∧ Below w.heap.size w w'

/-- two slices side by side, as a variadic call lays them -/
theorem pair_cells (w : World) (v u : Value) (t : TypeId) : (w.alloc (.cells #[v, u] t)).cell? ⟨w.heap.size, 0, none⟩ = some v ∧ (w.alloc (.cells #[v, u] t)).cell? ⟨w.heap.size, 0 + 1, none⟩ = some u :=
  ⟨cellNew rfl rfl, cellNew rfl rfl⟩

set_option maxHeartbeats 1000000 in
theorem Add_any {v u : Value} {xs ys : List Nat} (w : World) (h : Sl w v xs) (h' : Sl w u ys) (hx : Wf xs) (hy : Wf ys) (hl : xs.length ≤ 80) (hl' : ys.length ≤ 80) :
    Calls Try.prog 12 #[v, u] w fun e w' => RetNum w (val xs + val ys) e w' := by
  have hd : decide (80 < xs.length ∨ 80 < ys.length) = false := decide_eq_false (by omega)
  have ht := fun (c : Nat) => tooLong2_any (w.alloc (.cells #[v, u] 22)) (h.below ((Below.refl _ w).alloc (Nat.le_refl _) _)) (h'.below ((Below.refl _ w).alloc (Nat.le_refl _) _)) (cap := c) (pair_cells w v u 22).1 (pair_cells w v u 22).2
  rw [hd] at ht
  clear hd
  have hH := h
  have hH' := h'
  obtain ⟨a, cap, rfl, hlc, hcap, hnil, hr⟩ := h
  obtain ⟨a', cap', rfl, hlc', hcap', hnil', hr'⟩ := h'
  have HT := Lib.hid ht
  clear ht
  go_enter Try.func12, Try.ntmps12
  go_wp2_with fail
  refine (HT.out _).mono ?_
  rintro e w' ⟨rfl, rfl⟩
  clear HT
  obtain ⟨n, hn⟩ : ∃ n : Nat, n = max xs.length ys.length + 1 := ⟨_, rfl⟩
  have hm := run_make_words n (w.alloc (.cells #[.slice a xs.length cap, .slice a' ys.length cap'] 22)) (by omega)
  have hnI : (n : Int) = max (xs.length : Int) (ys.length : Int) + 1 := by omega
  rw [show ((n : Nat) : Int) = max (xs.length : Int) (ys.length : Int) + 1 from hnI] at hm
  have hB : Below w.heap.size w ((w.alloc (.cells #[.slice a xs.length cap, .slice a' ys.length cap'] 22)).alloc (.cells (wvs .u64 (List.replicate n 0)).toArray 41)) := ((Below.refl _ w).alloc (Nat.le_refl _) _).alloc (by simp) _
  have hb := Blk.new .u64 41 (w.alloc (.cells #[.slice a xs.length cap, .slice a' ys.length cap'] 22)) (List.replicate n 0)
  obtain ⟨w1, hcp, hb1, hbut⟩ := run_copy_words (S := fun _ => False) (n := n) (dCap := n) (sCap := cap) (a := a) (ys := xs) 3 hb (by simp) hnil (hr.below hB)
  rw [Nat.min_eq_left (by omega)] at hcp hb1
  have hlen : (xs.take xs.length ++ (List.replicate n 0).drop xs.length).length = n := by simp; omega
  have hval : val (xs.take xs.length ++ (List.replicate n 0).drop xs.length) = val xs := by
    rw [List.take_length, List.drop_replicate, val_append, val_zeros]; simp
  have hwf : Wf (xs.take xs.length ++ (List.replicate n 0).drop xs.length) := (hx.take _).append ((Wf.zeros n).drop _)
  rw [World.size_alloc] at hcp hb1 hbut
  have hB1 : Below w.heap.size w w1 := hbut.below hB (by omega) hB.size
  generalize xs.take xs.length ++ (List.replicate n 0).drop xs.length = ws at *
  have hadd := addTo_any (v := .slice a' ys.length cap') (w.heap.size + 1) 0 n n w1 (by omega) (by omega) hb1 hwf hy (hH'.fresh hB1 (by intro b hb; omega))
  have hsum := add_whole hwf hy (by omega) (by
    have h1 := val_lt hx
    have h2 := val_lt hy
    rw [hval, hlen]
    have h3 : W64 ^ xs.length ≤ W64 ^ (n - 1) := Nat.pow_le_pow_right W64_pos (by omega)
    have h4 : W64 ^ ys.length ≤ W64 ^ (n - 1) := Nat.pow_le_pow_right W64_pos (by omega)
    have h5 : W64 ^ (n - 1) * 2 ≤ W64 ^ (n - 1) * W64 := Nat.mul_le_mul_left _ (by rw [W64_eq]; omega)
    rw [← Nat.pow_succ, show (n - 1).succ = n by omega] at h5
    omega)
  rw [hlen, hval] at hsum
  have hul := upd_length ws 0 n (mn 1 0 (fun i => ws.getD (0 + i) 0) (fun i => ys.getD i 0)) (by omega)
  have HA := Lib.hid hadd
  have HS := Lib.hid hsum
  have HB1 := Lib.hid hB1
  have HU := Lib.hid hul
  have HN := Lib.hid hn
  have HL := Lib.hid hlen
  clear hadd hsum hB1 hB hb hbut hb1 hlen hval hwf hul hn hnI hr hr' hnil hnil' hH hH' hx hy
  go_wp2_with fail
  refine HA.out.mono ?_
  rintro e w2 ⟨rfl, hbut2, hb2⟩
  have hB2 := hbut2.below HB1.out (by omega) HB1.out.size
  have hif := inForm_any w2 (Blk.slN hb2 (HU.out.trans HL.out) (by have := HN.out; omega) (S := fun _ => False) (fun h => h))
  have HB2 := Lib.hid hB2
  clear hbut2 hb2 hB2 HA
  go_wp2_with fail
  refine hif.mono ?_
  rintro e w3 ⟨⟨u, rfl, hu⟩, rfl⟩
  have hu2 : Sl w2 u (toW (val xs + val ys)) := by rw [← HS.out.2, toW_val HS.out.1]; exact hu
  obtain ⟨ua, un, ucap, rfl⟩ := hu.shape
  have HU2 := Lib.hid hu2
  clear hif hu hu2
  go_wp2_with fail
  go_ret2
  exact ⟨_, rfl, HU2.out, HB2.out⟩

set_option maxHeartbeats 1000000 in
theorem Sub_less {v u : Value} {xs ys : List Nat} (w : World) (h : Sl w v xs) (h' : Sl w u ys) (hx : Wf xs) (hy : Wf ys) (hl : xs.length ≤ 80) (hl' : ys.length ≤ 80) (hlt : val xs < val ys) :
    Calls Try.prog 13 #[v, u] w fun e w' => RetErr w 1 e w' := by
  have hd : decide (80 < xs.length ∨ 80 < ys.length) = false := decide_eq_false (by omega)
  have ht := fun (c : Nat) => tooLong2_any (w.alloc (.cells #[v, u] 22)) (h.below ((Below.refl _ w).alloc (Nat.le_refl _) _)) (h'.below ((Below.refl _ w).alloc (Nat.le_refl _) _)) (cap := c) (pair_cells w v u 22).1 (pair_cells w v u 22).2
  have hc := Cmp_any (w.alloc (.cells #[v, u] 22)) (h.below ((Below.refl _ w).alloc (Nat.le_refl _) _)) (h'.below ((Below.refl _ w).alloc (Nat.le_refl _) _)) hx hy
  rw [hd] at ht
  rw [cmp3_lt hlt] at hc
  clear hd hlt
  obtain ⟨a, cap, rfl, hlc, hcap, hnil, hr⟩ := h
  obtain ⟨a', cap', rfl, hlc', hcap', hnil', hr'⟩ := h'
  clear hr hr' hnil hnil'
  have HT := Lib.hid ht
  have HC := Lib.hid hc
  clear ht hc
  go_enter Try.func13, Try.ntmps13
  go_wp2_with (first | (go_at_call 34; refine (HT.out _).mono ?_; rintro e w' ⟨rfl, rfl⟩) | (go_at_call 16; refine HC.out.mono ?_; rintro e w' ⟨rfl, q, rfl⟩))
  go_ret2
  exact ⟨rfl, below_drewN ((Below.refl _ w).alloc (Nat.le_refl _) _) _⟩

set_option maxHeartbeats 1000000 in
theorem Sub_any {v u : Value} {xs ys : List Nat} (w : World) (h : Sl w v xs) (h' : Sl w u ys) (hx : Wf xs) (hy : Wf ys) (hl : xs.length ≤ 80) (hl' : ys.length ≤ 80) (hle : val ys ≤ val xs) :
    Calls Try.prog 13 #[v, u] w fun e w' => RetNum w (val xs - val ys) e w' := by
  have hd : decide (80 < xs.length ∨ 80 < ys.length) = false := decide_eq_false (by omega)
  have ht := fun (c : Nat) => tooLong2_any (w.alloc (.cells #[v, u] 22)) (h.below ((Below.refl _ w).alloc (Nat.le_refl _) _)) (h'.below ((Below.refl _ w).alloc (Nat.le_refl _) _)) (cap := c) (pair_cells w v u 22).1 (pair_cells w v u 22).2
  have hc := Cmp_any (w.alloc (.cells #[v, u] 22)) (h.below ((Below.refl _ w).alloc (Nat.le_refl _) _)) (h'.below ((Below.refl _ w).alloc (Nat.le_refl _) _)) hx hy
  rw [hd] at ht
  have hcmp : (decide (cmp3 (val xs) (val ys) < 0)) = false := by
    rcases Nat.eq_or_lt_of_le hle with e | hlt
    · rw [cmp3_eq e.symm]; rfl
    · rw [cmp3_gt hlt]; rfl
  obtain ⟨d, hdd⟩ : ∃ d, cmp3 (val xs) (val ys) = d := ⟨_, rfl⟩
  rw [hdd] at hc hcmp
  have hcmp2 : ¬ d < 0 := of_decide_eq_false hcmp
  clear hd hdd hcmp
  obtain ⟨m, hm⟩ : ∃ m, m = (toW (val xs)).length := ⟨_, rfl⟩
  have hm1 : m ≤ xs.length := by rw [hm, toW_val hx]; exact norm_length_le xs
  have hof := fun (q : Nat) => Of_any ((w.alloc (.cells #[v, u] 22)).drewN q) (h.below (below_drewN ((Below.refl _ w).alloc (Nat.le_refl _) _) _)) hx (by omega) hm
  have hH' := h'
  obtain ⟨a, cap, rfl, hlc, hcap, hnil, hr⟩ := h
  obtain ⟨a', cap', rfl, hlc', hcap', hnil', hr'⟩ := h'
  clear hr hr' hnil hnil'
  have HT := Lib.hid ht
  have HC := Lib.hid hc
  have HO := Lib.hid hof
  have HH := Lib.hid hH'
  clear ht hc hof hH'
  go_enter Try.func13, Try.ntmps13
  go_wp2_with (first | (go_at_call 34; refine (HT.out _).mono ?_; rintro e w' ⟨rfl, rfl⟩) | (go_at_call 16; refine HC.out.mono ?_; rintro e w' ⟨rfl, q, rfl⟩))
  refine (HO.out _).mono ?_
  rintro e w1 ⟨rfl, hb1, hk1⟩
  have hB1 : Below w.heap.size w w1 := (below_drewN ((Below.refl _ w).alloc (Nat.le_refl _) _) _).trans (hb1.mono (by simp))
  simp only [World.heap_drewN, World.size_alloc] at hk1
  have hlen : m = (toW (val xs)).length := hm
  have htk := takeFrom_any (v := .slice a' ys.length cap') (ws := toW (val xs)) (ys := ys) (w.heap.size + 1) 0 m m w1 (by omega) (by omega) hk1 (HH.out.fresh hB1 (by intro b hb; omega))
  have hsub := sub_whole (toW_wf (val xs)) hy (by rw [val_toW]; exact hle)
  rw [← hlen, val_toW] at hsub
  have hul := upd_length (toW (val xs)) 0 m (bn (fun i => (toW (val xs)).getD (0 + i) 0) (fun i => ys.getD i 0)) (by omega)
  have HA := Lib.hid htk
  have HS := Lib.hid hsub
  have HB1 := Lib.hid hB1
  have HU := Lib.hid hul
  have HM := Lib.hid hm
  clear htk hsub hB1 hul hb1 hk1 hlen hm HO HC HT HH
  go_wp2_with fail
  refine HA.out.mono ?_
  rintro e w2 ⟨rfl, hbut2, hb2⟩
  have hB2 := hbut2.below HB1.out (by omega) HB1.out.size
  have hif := inForm_any w2 (Blk.slN hb2 (HU.out.trans HM.out.symm) (by omega) (S := fun _ => False) (fun h => h))
  have HB2 := Lib.hid hB2
  clear hbut2 hb2 hB2 HA
  go_wp2_with fail
  refine hif.mono ?_
  rintro e w3 ⟨⟨u, rfl, hu⟩, rfl⟩
  have hu2 : Sl w2 u (toW (val xs - val ys)) := by rw [← HS.out.2, toW_val HS.out.1]; exact hu
  obtain ⟨ua, un, ucap, rfl⟩ := hu.shape
  have HU2 := Lib.hid hu2
  clear hif hu hu2
  go_wp2_with fail
  go_ret2
  exact ⟨_, rfl, HU2.out, HB2.out⟩

set_option maxHeartbeats 2000000 in
theorem Mul_any {v u : Value} {xs ys : List Nat} (w : World) (h : Sl w v xs) (h' : Sl w u ys) (hx : Wf xs) (hy : Wf ys) (hl : xs.length ≤ 80) (hl' : ys.length ≤ 80) :
    Calls Try.prog 14 #[v, u] w fun e w' => RetNum w (val xs * val ys) e w' := by
  have hd : decide (80 < xs.length ∨ 80 < ys.length) = false := decide_eq_false (by omega)
  have ht := fun (c : Nat) => tooLong2_any (w.alloc (.cells #[v, u] 22)) (h.below ((Below.refl _ w).alloc (Nat.le_refl _) _)) (h'.below ((Below.refl _ w).alloc (Nat.le_refl _) _)) (cap := c) (pair_cells w v u 22).1 (pair_cells w v u 22).2
  rw [hd] at ht
  clear hd
  have hH' := h'
  obtain ⟨a, cap, rfl, hlc, hcap, hnil, hr⟩ := h
  obtain ⟨a', cap', rfl, hlc', hcap', hnil', hr'⟩ := h'
  have HT := Lib.hid ht
  clear ht
  have HH := Lib.hid hH'
  obtain ⟨n, hn⟩ : ∃ n : Nat, n = xs.length + ys.length := ⟨_, rfl⟩
  have hm := run_make_words n (w.alloc (.cells #[.slice a xs.length cap, .slice a' ys.length cap'] 22)) (by omega)
  rw [show ((n : Nat) : Int) = (xs.length : Int) + (ys.length : Int) from by omega] at hm
  have hB : Below w.heap.size w ((w.alloc (.cells #[.slice a xs.length cap, .slice a' ys.length cap'] 22)).alloc (.cells (wvs .u64 (List.replicate n 0)).toArray 41)) := ((Below.refl _ w).alloc (Nat.le_refl _) _).alloc (by simp) _
  have hb := Blk.new .u64 41 (w.alloc (.cells #[.slice a xs.length cap, .slice a' ys.length cap'] 22)) (List.replicate n 0)
  rw [World.size_alloc] at hb
  have HB := Lib.hid hB
  have HBk := Lib.hid hb
  have HN := Lib.hid hn
  have HR := Lib.hid hr
  clear hB hb hn hr hr' hnil hnil' hH'
  go_enter Try.func14, Try.ntmps14
  go_wp2_with (go_at_call 34; refine (HT.out _).mono ?_; rintro e w' ⟨rfl, rfl⟩)
  go_loopw [21] (fun i wr => ∃ (k : Nat) (ws : List Nat), k ≤ xs.length ∧ i = .int .i64 k ∧ Below w.heap.size w wr ∧ Blk .u64 41 wr (w.heap.size + 1) ws ∧ Hid (ws.length = n ∧ Wf ws ∧ val ws = val (xs.take k) * val ys)) (fun i _ => xs.length - (intOf i).toNat)
  case atStart => exact ⟨0, _, Nat.zero_le _, rfl, HB.out, HBk.out, by simp, Wf.zeros _, by rw [val_zeros]; simp [val]⟩
  case round =>
    obtain ⟨k, ws, hk, rfl, hbel, hblk, hws⟩ := hrel
    by_cases hlt : k < xs.length
    · have hrd := HR.out.below hbel
      rcases hrd with hrd | ⟨b, off, rfl, _, hc⟩
      · subst hrd; simp at hlt
      have hcell := hc k hlt
      obtain ⟨x, hxk⟩ : ∃ x, xs.getD k 0 = x := ⟨_, rfl⟩
      have hxw : x < W64 := by rw [← hxk]; exact hx.getD k
      rw [hxk] at hcell
      obtain ⟨h1, h2, h3⟩ := hws.out
      have hn := HN.out
      have ham := addMultiple_any (v := .slice a' ys.length cap') (ws := ws) (ys := ys) (w.heap.size + 1) k (ys.length + 1) (n - k) x wr (by omega) (by omega) hblk h2 hy hxw (HH.out.fresh hbel (by intro b hb; omega))
      have hmr := mul_row (k := k) h2 hy hxw rfl (by omega) (by
        rw [h3, Nat.pow_add]
        have e1 := val_lt (hx.take k)
        have e2 := val_lt hy
        rw [List.length_take, Nat.min_eq_left (by omega)] at e1
        exact Nat.mul_lt_mul_of_lt_of_lt e1 e2)
      have hul := upd_length ws k (ys.length + 1) (mn x 0 (fun i => ws.getD (k + i) 0) (fun i => ys.getD i 0)) (by omega)
      have hv : val (upd ws k (ys.length + 1) (mn x 0 (fun i => ws.getD (k + i) 0) (fun i => ys.getD i 0))) = val (xs.take (k + 1)) * val ys := by
        rw [hmr.2, h3, val_take_succ xs k hlt, hxk, Nat.add_mul, Nat.mul_assoc]
      have HA := Lib.hid ham
      have HV := Lib.hid (And.intro (hul.trans h1) (And.intro hmr.1 hv))
      have HBel := Lib.hid hbel
      have HX := Lib.hid hxk
      have hkn : k + (ys.length + 1) ≤ n := by omega
      clear ham hmr hul hv hbel hblk hws hc hxk h1 h2 h3 hn
      go_wp2_with fail
      rw [show k + ys.length + 1 - k = ys.length + 1 by omega]
      refine HA.out.mono ?_
      rintro e w2 ⟨rfl, hbut2, hb2⟩
      have hB2 := hbut2.below HBel.out (by omega) HBel.out.size
      have HB2 := Lib.hid hB2
      have Hb2 := Lib.hid hb2
      clear hbut2 hb2 hB2 HA hcell
      go_wp2_with fail
      go_roundw
      case rel => exact ⟨k + 1, _, by omega, by go_num, HB2.out, Hb2.out, HV.out⟩
      case measure => simp [intOf]; omega
    · have hk' : k = xs.length := by omega
      obtain ⟨h1, h2, h3⟩ := hws.out
      rw [hk', List.take_length] at h3
      have hif := inForm_any wr (Blk.slN hblk h1 (by have := HN.out; omega) (S := fun _ => False) (fun h => h))
      have hge : (xs.length : Int) ≤ (k : Int) := by omega
      have HBel := Lib.hid hbel
      have HV := Lib.hid (And.intro h2 h3)
      clear hbel hblk hws h1 h2 h3 hk'
      go_wp2_with fail
      refine hif.mono ?_
      rintro e w3 ⟨⟨u, rfl, hu⟩, rfl⟩
      have hu2 : Sl wr u (toW (val xs * val ys)) := by rw [← HV.out.2, toW_val HV.out.1]; exact hu
      obtain ⟨ua, un, ucap, rfl⟩ := hu.shape
      have HU2 := Lib.hid hu2
      clear hif hu hu2
      go_wp2_with fail
      go_ret2
      exact ⟨_, rfl, HU2.out, HBel.out⟩
end Go.Proofs.Ytocmmabpebbdaaa
