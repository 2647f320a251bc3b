/- The document's own answer: Over. -/
import Derived.Test.YtocmmabpebbdaaaRefD
namespace Go.Proofs.Ytocmmabpebbdaaa
open Go.RowKit

/-- make([]uint32, n) -/
theorem run_make_digits (n : Nat) (w : World) (hn : n ≤ 1000000000) :
    (Instr.makeSlice 26 (.int .i64 n) (.int .i64 n)).run Try.prog w = .ok (.slice (some ⟨w.heap.size, 0, none⟩) n n) (w.alloc (.cells (wvs .u32 (List.replicate n 0)).toArray 56)) := by
  obtain ⟨i, hi, hz, hs, hb⟩ := info_parts info_u32
  have := run_make (P := Try.prog) w 26 56 i (.int .u32 0) Try.underlying26 hi hz .i64 .i64 n n (by omega) (Int.le_refl _) (by rw [hb]; omega) (by omega)
  rw [this, hs, Int.toNat_natCast, madeCells_zero]
theorem or_bit32 (y s : Nat) (hy : y < 4294967296) (hs : s < 32) : bits .or .u32 (y : Int) (IntKind.u32.wrap (2 ^ s)) = ((y ||| 2 ^ s : Nat) : Int) := by
  have h : 2 ^ s < 2 ^ 32 := Nat.pow_lt_pow_right (by omega) hs
  have e : (2 ^ s : Int) = ((2 ^ s : Nat) : Int) := by simp
  rw [e, wrap_u32_nat, Nat.mod_eq_of_lt (by omega), bits_or_u32 _ _ hy (by omega)]

set_option maxRecDepth 100000 in
set_option maxHeartbeats 1000000 in
theorem Over_any {v u : Value} {xs ys : List Nat} (w : World) (h : SlD w v xs) (h' : SlD w u ys) (hx : Dig.Wf xs) (hy : Dig.Wf ys) (hl : xs.length ≤ 1000) (hl' : ys.length ≤ 1000) (fy : norm ys = ys) (hpos : 0 < Dig.val ys) :
    Calls Try.prog 28 #[v, u] w fun e w' => ∃ q r, e = .returned (.tuple #[q, r]) ∧ SlD w' q (Dig.toW (Dig.val xs / Dig.val ys)) ∧ SlD w' r (Dig.toW (Dig.val xs % Dig.val ys)) ∧ Below w.heap.size w w' := by
  obtain ⟨a, cap, rfl⟩ : ∃ a cap, v = .slice a xs.length cap := let ⟨a, c, e, _⟩ := h; ⟨a, c, e⟩
  obtain ⟨b, bcap, rfl⟩ : ∃ a cap, u = .slice a ys.length cap := let ⟨a, c, e, _⟩ := h'; ⟨a, c, e⟩
  obtain ⟨la, hla⟩ : ∃ la, la = xs.length := ⟨_, rfl⟩
  obtain ⟨lb, hlb⟩ : ∃ lb, lb = ys.length := ⟨_, rfl⟩
  rw [← hla] at h hl ⊢
  rw [← hlb] at h' hl' ⊢
  have hmk := fun W => run_make_digits la W (by omega)
  have hla64 : (la : Int) ≤ 1000 := by omega
  have hylt : Dig.val ys < Dig.W16 ^ lb := by rw [hlb]; exact Dig.val_lt hy
  have hlo : Dig.val xs < 2 ^ (16 * la) := by
    have := Dig.val_lt hx
    rw [Dig.W16_two, ← Nat.pow_mul, ← hla] at this
    exact this
  have H := Lib.hid (And.intro h (And.intro h' (And.intro hx (And.intro hy (And.intro hla hlb)))))
  have H2 := Lib.hid (And.intro fy (And.intro hpos (And.intro hylt hlo)))
  clear h h' hx hy hla hlb fy hpos hylt hlo
  go_enter Try.func28, Try.ntmps28
  go_wp2_with fail
  have k0 : Blk .u32 56 (w.alloc (.cells (wvs .u32 (List.replicate la 0)).toArray 56)) w.heap.size (List.replicate la 0) := Blk.new .u32 56 w _
  have hb0 : Below w.heap.size w (w.alloc (.cells (wvs .u32 (List.replicate la 0)).toArray 56)) := (Below.refl _ w).alloc (Nat.le_refl _) _
  generalize w.alloc (.cells (wvs .u32 (List.replicate la 0)).toArray 56) = W0 at *
  clear hmk
  go_loopw [7, 8] (fun rv i wr => ∃ k : Nat, k ≤ 16 * la ∧ Hid ((k < 16 * la ∧ i = .int .i64 ((16 * la - 1 - k : Nat) : Int)) ∨ (k = 16 * la ∧ i = .int .i64 (-1))) ∧ Below w.heap.size w wr ∧ Hid (Blk .u32 56 wr w.heap.size (Dig.dsteps (Dig.val ys) (16 * la) (Dig.val xs) (0, List.replicate la 0) (List.range k)).2 ∧ SlS (fun b => b = w.heap.size) .u32 wr rv (Dig.toW (Dig.dsteps (Dig.val ys) (16 * la) (Dig.val xs) (0, List.replicate la 0) (List.range k)).1))) (fun _ i _ => (intOf i + 1).toNat)
  case atStart =>
    refine ⟨0, Nat.zero_le _, ?_, hb0, k0, SlS.nil _ _ _⟩
    by_cases h : 0 < 16 * la
    · exact .inl ⟨h, congrArg (Value.int .i64) (by omega)⟩
    · exact .inr ⟨by omega, congrArg (Value.int .i64) (by omega)⟩
  case round =>
    obtain ⟨k, hk, hi, hb, hst⟩ := hrel
    rcases hi.out with ⟨hlt, rfl⟩ | ⟨hkn, rfl⟩
    · obtain ⟨hblk, hrest⟩ := hst.out
      have hinv := Dig.dsteps_inv (n := 16 * la) (lo := Dig.val xs) (l := la) (b := Dig.val ys) (st := (0, List.replicate la 0)) ⟨H2.out.2.1, Dig.Wf.zeros _, by simp⟩ (List.range k)
      have hnext : Dig.dsteps (Dig.val ys) (16 * la) (Dig.val xs) (0, List.replicate la 0) (List.range (k + 1)) = Dig.dstep (Dig.val ys) (16 * la) (Dig.val xs) (Dig.dsteps (Dig.val ys) (16 * la) (Dig.val xs) (0, List.replicate la 0) (List.range k)) k := by rw [List.range_succ, Dig.dsteps_snoc]
      generalize Dig.dsteps (Dig.val ys) (16 * la) (Dig.val xs) (0, List.replicate la 0) (List.range k) = st at *
      obtain ⟨r, q⟩ := st
      unfold Dig.dstep at hnext
      obtain ⟨p, hp⟩ : ∃ p, p = 16 * la - 1 - k := ⟨_, rfl⟩
      simp only [← hp] at hnext ⊢
      have hrlt : r < Dig.val ys := hinv.lt
      have hqw : Dig.Wf q := hinv.wf
      have hql : q.length = la := hinv.len
      simp only at hblk hrest
      obtain ⟨bt, hbt⟩ : ∃ bt, bt = Dig.val xs / 2 ^ p % 2 := ⟨_, rfl⟩
      rw [← hbt] at hnext
      have hrl : (Dig.toW r).length ≤ lb := Dig.toW_length_le (Nat.lt_trans hrlt H2.out.2.2.1)
      have hp64 : (p : Int) < 16000 := by omega
      have hpl := Plus_any wr hrest.plain hrest.plain (Dig.toW_wf r) (Dig.toW_wf r) (by omega) (by omega)
      rw [Dig.val_toW, ← Nat.two_mul] at hpl
      have hbit := fun (W : World) (hW : Below w.heap.size w W) => bit_ref p (by omega) W (H.out.1.below hW) H.out.2.2.1
      rw [← hbt] at hbit
      have hrl2 : (Dig.toW (2 * r)).length ≤ lb + 1 := Dig.toW_length_le (by
        have := H2.out.2.2.1
        rw [Nat.pow_succ]
        have h2 : Dig.W16 ^ lb * 2 ≤ Dig.W16 ^ lb * Dig.W16 := Nat.mul_le_mul_left _ (by rw [Dig.W16_eq]; omega)
        omega)
      have hbt2 : bt = 0 ∨ bt = 1 := by omega
      have HP := Lib.hid (And.intro hp (And.intro hlt (And.intro hk (And.intro hrl2 (And.intro hrlt hl')))))
      have HPl := Lib.hid hpl
      have HBt := Lib.hid hbit
      have HN := Lib.hid hnext
      have HQ := Lib.hid (And.intro hqw hql)
      have HK := Lib.hid hblk
      have HS := Lib.hid hrest
      have HB := Lib.hid hb
      clear hp hlt hk hpl hbit hnext hqw hql hblk hrest hb hi hst hinv hrlt hrl hrl2 hbt k0 hb0 hl hl'
      have hp0 : 0 ≤ (p : Int) := by omega
      clear hp64
      go_wp2_with fail
      go_at_call 24
      refine HPl.out.mono ?_
      rintro e w1 ⟨r1, rfl, hr1, hb1⟩
      have hB1 : Below w.heap.size w w1 := Below.follow HB.out hb1
      have hk1 := HK.out.below hb1
      have HS1 := Lib.hid (hr1.weaken (T := fun b => b = w.heap.size) (fun b e => by subst e; exact HK.out.lt))
      have HK1 := Lib.hid hk1
      have HB1 := Lib.hid hB1
      clear hr1 hb1 hB1 hk1 HPl
      go_wp2_with fail
      go_at_call 44
      refine (HBt.out w1 HB1.out).mono ?_
      rintro e w2 ⟨rfl, hw⟩
      obtain rfl := hw.symm
      clear hw HBt
      rcases hbt2 with rfl | rfl
      rotate_left
      have hb2 : Below w1.heap.size w1 (w1.alloc (.cells #[.int .u32 1] 56)) := (Below.refl _ w1).alloc (Nat.le_refl _) _
      have hone : SlD (w1.alloc (.cells #[.int .u32 1] 56)) (.slice (some ⟨w1.heap.size, 0, none⟩) 1 1) [1] := (Blk.new .u32 56 w1 [1]).sl 1 (Nat.le_refl _) (by omega) (fun h => h)
      have hpl := Plus_any (w1.alloc (.cells #[.int .u32 1] 56)) (HS1.out.plain.below hb2) hone (Dig.toW_wf _) (fun y hy => by simp at hy; subst hy; rw [Dig.W16_eq]; omega) (by have := HP.out.2.2.2.1; have := HP.out.2.2.2.2.2; omega) (by simp)
      rw [Dig.val_toW, show Dig.val [1] = 1 from rfl] at hpl
      have HPl := Lib.hid hpl
      clear hpl hone hb2
      go_wp2_with fail
      go_at_call 24
      refine HPl.out.mono ?_
      rintro e W2 ⟨r2, rfl, hr2, hb3⟩
      have hb2 : Below w1.heap.size w1 W2 := Below.follow ((Below.refl _ w1).alloc (Nat.le_refl _) _) hb3
      have HS2 : Hid (SlS (fun b => b = w.heap.size) .u32 W2 r2 (Dig.toW (2 * r + 1))) := Lib.hid (hr2.weaken (T := fun b => b = w.heap.size) (fun b e => by subst e; have := HK1.out.lt; simp; omega))
      have HK2 := Lib.hid (HK1.out.below hb2)
      have HB2 := Lib.hid (Below.follow HB1.out hb2)
      clear hr2 hb3 hb2 HPl HS1 HK1 HB1
      rotate_left
      obtain ⟨W2, rfl⟩ : ∃ W2, W2 = w1 := ⟨_, rfl⟩
      obtain ⟨r2, rfl⟩ : ∃ r2, r2 = r1 := ⟨_, rfl⟩
      have HS2 : Hid (SlS (fun b => b = w.heap.size) .u32 W2 r2 (Dig.toW (2 * r + 0))) := HS1
      have HK2 := HK1
      have HB2 := HB1
      clear HS1 HK1 HB1
      all_goals
        have hls := fun (W : World) (hW : W.heap = W2.heap) => Less_any W (HS2.out.heap hW) ((H.out.2.1.below HB2.out).heap hW) (Dig.toW_wf _) H.out.2.2.2.1 (by rw [← dnorm_same, Dig.norm_toW]) H2.out.1
        rw [Dig.val_toW] at hls
      have hrrl : (Dig.toW (2 * r + 0)).length ≤ lb + 1 := HP.out.2.2.2.1
      obtain ⟨rr, hrr⟩ : ∃ rr, rr = 2 * r + 0 := ⟨_, rfl⟩
      rw [← hrr] at HN HS2 hls hrrl
      clear hrr
      rotate_left
      have hrrl : (Dig.toW (2 * r + 1)).length ≤ lb + 1 := Dig.toW_length_le (by
        have h1 := H2.out.2.2.1
        have h3 := HP.out.2.2.2.2.1
        rw [Nat.pow_succ]
        have h2 : Dig.W16 ^ lb * 2 ≤ Dig.W16 ^ lb * Dig.W16 := Nat.mul_le_mul_left _ (by rw [Dig.W16_eq]; omega)
        omega)
      obtain ⟨rr, hrr⟩ : ∃ rr, rr = 2 * r + 1 := ⟨_, rfl⟩
      rw [← hrr] at HN HS2 hls hrrl
      clear hrr
      all_goals
        have HLs := Lib.hid hls
        have HR := Lib.hid hrrl
        clear hls hrrl
        by_cases hle : Dig.val ys ≤ rr
        · have hdec : decide (rr < Dig.val ys) = false := decide_eq_false (by omega)
          have hn := HN.out
          rw [if_pos hle] at hn
          have HN2 := Lib.hid hn
          clear HN hn
          have HLe := Lib.hid hle
          have HDe := Lib.hid hdec
          clear hle hdec
          go_wp2_with fail
          go_at_call 26
          refine (HLs.out W2 rfl).mono ?_
          rw [HDe.out]
          rintro e w3 ⟨rfl, n3, hw3⟩
          have hmi := Minus_any w3 (show SlD w3 r2 _ by rw [hw3]; exact HS2.out.plain.heap rfl) (show SlD w3 (.slice b lb bcap) ys by rw [hw3]; exact (H.out.2.1.below HB2.out).heap rfl) (Dig.toW_wf _) H.out.2.2.2.1 (by have := HR.out; have := HP.out.2.2.2.2.2; omega) (by rw [Dig.val_toW]; exact HLe.out)
          rw [Dig.val_toW] at hmi
          have HMi := Lib.hid hmi
          have HK3 : Hid (Blk .u32 56 w3 w.heap.size q) := Lib.hid (by rw [hw3]; exact HK2.out)
          have HB3 : Hid (Below w.heap.size w w3) := Lib.hid (by rw [hw3]; exact below_drewN HB2.out _)
          clear hw3 hmi HLs
          go_wp2_with fail
          go_at_call 27
          refine HMi.out.mono ?_
          rintro e w4 ⟨r4, rfl, hr4, hb4⟩
          have HS4 : Hid (SlS (fun b => b = w.heap.size) .u32 w4 r4 (Dig.toW (rr - Dig.val ys))) := Lib.hid (hr4.weaken (T := fun b => b = w.heap.size) (fun b e => by subst e; exact HK3.out.lt))
          have hk4 := HK3.out.below hb4
          have HB4 := Lib.hid (Below.follow HB3.out hb4)
          have hpq : p / 16 < q.length := by have := HP.out; have := HQ.out.2; omega
          have hcq := hk4.cell (p / 16) hpq
          have hfq := hk4.free (p / 16) none
          obtain ⟨y, hy⟩ : ∃ y, y = q.getD (p / 16) 0 := ⟨_, rfl⟩
          have hyw := HQ.out.1.getD (p / 16)
          rw [← hy] at hcq hyw
          have hpi : (p : Int) / 16 < (la : Int) := by have := HQ.out.2; omega
          have hpi0 : 0 ≤ (p : Int) / 16 := by omega
          have hpi1 : ((p : Int) / 16).toNat = p / 16 := by omega
          have hw1 : IntKind.i64.wrap ((p : Int) / 16) = (p : Int) / 16 := IntWalk.i64_in _ (by omega)
          have hw2 : (p : Int).tmod 16 = (p : Int) % 16 := Int.tmod_eq_emod_of_nonneg (by omega)
          have hm0 : 0 ≤ (p : Int) % 16 := by omega
          have hm1 : (p : Int) % 16 ≤ 16 := by omega
          have hm2 : ((p : Int) % 16).toNat = p % 16 := by omega
          have HK4 := Lib.hid hk4
          have HY := Lib.hid (And.intro hy hyw)
          clear hr4 hk4 hb4 hy hyw hpq HMi
          go_wp2_with fail
          go_still_tail 13, (by kernel_rfl)
          repeat still_step
          change wpList _ _ _ _ _ w4.drew
          clear hw1 hw2 hm0 hm1 hm2 hpi0 hpi1
          go_wp2
          obtain ⟨hp, hlt, hk, _, hrlt, _⟩ := HP.out
          have hv := or_bit32 y (p % 16) (by have := HY.out.2; rw [Dig.W16_eq] at this; omega) (by omega)
          rw [IntKind.wrap_u32] at hv
          rw [hv]
          have hidx : Hid ((k + 1 < 16 * la ∧ Value.int .i64 ((p : Int) - 1) = Value.int .i64 ((16 * la - 1 - (k + 1) : Nat) : Int)) ∨ (k + 1 = 16 * la ∧ Value.int .i64 ((p : Int) - 1) = Value.int .i64 (-1))) := by
            by_cases h : k + 1 < 16 * la
            · exact .inl ⟨h, congrArg (Value.int .i64) (by omega)⟩
            · exact .inr ⟨by omega, congrArg (Value.int .i64) (by omega)⟩
          refine ⟨⟨k + 1, by omega, hidx, (HB4.out.setCell (p := ⟨w.heap.size, p / 16, none⟩) (Nat.le_refl _) _).drew, ?_⟩, by simp [intOf]⟩
          rw [HN2.out]
          refine ⟨?_, HS4.out.carry fun b hlt hs => ⟨Below.heap_setCell _ _ _ _ hs, hs⟩⟩
          have := HK4.out.set (p / 16) (y ||| 2 ^ (p % 16))
          rw [HY.out.1] at this ⊢
          exact this
        · have hdec : decide (rr < Dig.val ys) = true := decide_eq_true (by omega)
          have hn := HN.out
          rw [if_neg hle] at hn
          have HN2 := Lib.hid hn
          clear HN hn
          have HDe := Lib.hid hdec
          have hpb : (p : Int) < 16 * (la : Int) := by have := HP.out; omega
          clear hle hdec
          go_wp2_with fail
          go_at_call 26
          refine (HLs.out W2 rfl).mono ?_
          rw [HDe.out]
          rintro e w3 ⟨rfl, n3, hw3⟩
          have HS3 : Hid (SlS (fun b => b = w.heap.size) .u32 w3 r2 (Dig.toW rr)) := Lib.hid (HS2.out.heap (by rw [hw3]; rfl))
          have HK3 : Hid (Blk .u32 56 w3 w.heap.size q) := Lib.hid (by rw [hw3]; exact HK2.out)
          have HB3 : Hid (Below w.heap.size w w3) := Lib.hid (by rw [hw3]; exact below_drewN HB2.out _)
          clear hw3 HLs
          go_wp2_with fail
          obtain ⟨hp, hlt, hk, _, hrlt, _⟩ := HP.out
          have hidx : Hid ((k + 1 < 16 * la ∧ Value.int .i64 ((p : Int) - 1) = Value.int .i64 ((16 * la - 1 - (k + 1) : Nat) : Int)) ∨ (k + 1 = 16 * la ∧ Value.int .i64 ((p : Int) - 1) = Value.int .i64 (-1))) := by
            by_cases h : k + 1 < 16 * la
            · exact .inl ⟨h, congrArg (Value.int .i64) (by omega)⟩
            · exact .inr ⟨by omega, congrArg (Value.int .i64) (by omega)⟩
          refine ⟨⟨k + 1, by omega, hidx, HB3.out, ?_⟩, by simp [intOf]⟩
          rw [HN2.out]
          exact ⟨HK3.out, HS3.out⟩
    · obtain ⟨hblk, hrest⟩ := hst.out
      have hall := Dig.dsteps_all (b := Dig.val ys) (l := la) (r0 := 0) (lo := Dig.val xs) H2.out.2.1 H2.out.2.2.2
      have hinv := Dig.dsteps_inv (n := 16 * la) (lo := Dig.val xs) (l := la) (b := Dig.val ys) (st := (0, List.replicate la 0)) ⟨H2.out.2.1, Dig.Wf.zeros _, by simp⟩ (List.range (16 * la))
      rw [hkn] at hblk hrest
      rw [Nat.mul_zero, Nat.add_zero] at hall
      generalize Dig.dsteps (Dig.val ys) (16 * la) (Dig.val xs) (0, List.replicate la 0) (List.range (16 * la)) = st at *
      obtain ⟨r, q⟩ := st
      obtain ⟨hq, hr⟩ := hall
      have hqw : Dig.Wf q := hinv.wf
      have hql : q.length = la := hinv.len
      simp only at hblk hrest hq hr
      have htr := trim_any wr (hblk.slN hql (by omega) (S := fun _ => False) (fun h => h))
      rw [← dnorm_same, ← Dig.toW_val hqw, hq] at htr
      rw [hr] at hrest
      have HT := Lib.hid htr
      have HS := Lib.hid hrest
      clear htr hrest hblk hst hinv hq hr hi hkn hk k0 hb0
      go_wp2_with (go_at_call 33; refine HT.out.mono ?_; rintro e w' ⟨⟨r, rfl, hr⟩, hw⟩; obtain rfl := hw.symm; clear hw)
      go_ret2
      exact ⟨_, _, rfl, hr, HS.out.plain, hb⟩
end Go.Proofs.Ytocmmabpebbdaaa
