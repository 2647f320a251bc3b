/- The document's own answer: Words. -/
import Derived.Test.YtocmmabpebbdaaaRefF
namespace Go.Proofs.Ytocmmabpebbdaaa
open Go.RowKit

/-- a store into a slice that the call itself made -/
theorem ownsRow_set {e : TypeId} {k : IntKind} {W : World} {base g n cap : Nat} {xs : List Nat} (h : W.ownsRow base e 1 (.slice (some ⟨g, 0, none⟩) n cap) n (wvs k xs)) (i x : Nat) :
    (W.setCell ⟨g, i, none⟩ (.int k (x : Int))).ownsRow base e 1 (.slice (some ⟨g, 0, none⟩) n cap) n (wvs k (xs.set i x)) := by
  obtain ⟨hl, ⟨e', _⟩ | ⟨g', cap', cur, e', hb, hc, hn, hm, hs, ht⟩⟩ := h
  · cases e'
  · cases e'
    refine ⟨by simpa [wvs] using hl, .inr ⟨g, cap, cur.setIfInBounds i (.int k (x : Int)), rfl, hb, ?_, hn, hm, by simpa using hs, ?_⟩⟩
    · unfold World.setCell
      simp only [Array.getElem?_modify, if_true]
      rw [hc]
      simp
    · rw [Array.toList_setIfInBounds, List.take_set, ht]
      simp [wvs, List.map_set]
theorem word_top (xs : List Nat) (h : Wf xs) (k : Nat) : val xs / W64 ^ k % W64 = xs.getD k 0 := by
  by_cases hk : k < xs.length
  · rw [val_take_drop xs k (by omega)]
    have h1 := val_lt (h.take k)
    rw [List.length_take, Nat.min_eq_left (by omega)] at h1
    rw [Nat.add_mul_div_left _ _ (Nat.pow_pos W64_pos), Nat.div_eq_of_lt h1, Nat.zero_add, List.drop_eq_getElem_cons hk, val_cons, Nat.add_mul_mod_self_left]
    have h2 := h.getD k
    rw [List.getD_eq_getElem?_getD, List.getElem?_eq_getElem hk] at h2 ⊢
    exact Nat.mod_eq_of_lt h2
  · rw [List.getD_eq_getElem?_getD, List.getElem?_eq_none (by omega)]
    have h1 := val_lt h
    have h2 : W64 ^ xs.length ≤ W64 ^ k := Nat.pow_le_pow_right W64_pos (by omega)
    rw [Nat.div_eq_of_lt (by omega)]
    rfl
/-- a word of a number, and something more in it -/
theorem val_set_add (q : List Nat) (i t : Nat) (hi : i < q.length) : val (q.set i (q.getD i 0 + t)) = val q + W64 ^ i * t := by
  have e5 := val_take_drop (q.set i (q.getD i 0 + t)) (i + 1) (by simp; omega)
  rw [val_take_succ _ i (by simp; omega)] at e5
  have e6 : (q.set i (q.getD i 0 + t)).take i = q.take i := by rw [List.take_set_of_le (Nat.le_refl _)]
  have e7 : (q.set i (q.getD i 0 + t)).drop (i + 1) = q.drop (i + 1) := by rw [List.drop_set_of_lt (by omega)]
  have e8 : (q.set i (q.getD i 0 + t)).getD i 0 = q.getD i 0 + t := by simp [List.getD, hi]
  have e0 := val_take_drop q (i + 1) (by omega)
  rw [val_take_succ _ i hi] at e0
  rw [e6, e7, e8, Nat.mul_add] at e5
  omega
/-- one digit more is laid on words -/
theorem words_step {q : List Nat} (h : Wf q) (k d : Nat) (hl : q.length = k / 4 + 1) (hv : val q < 2 ^ (16 * k)) (hd : d < 65536) :
    q.getD (k / 4) 0 ||| d * 2 ^ (16 * (k % 4)) = q.getD (k / 4) 0 + d * 2 ^ (16 * (k % 4)) ∧ q.getD (k / 4) 0 + d * 2 ^ (16 * (k % 4)) < W64 ∧ val (q.set (k / 4) (q.getD (k / 4) 0 + d * 2 ^ (16 * (k % 4)))) = val q + 2 ^ (16 * k) * d := by
  have hs : k % 4 < 4 := Nat.mod_lt _ (by omega)
  have e : 2 ^ (16 * k) = W64 ^ (k / 4) * 2 ^ (16 * (k % 4)) := by
    rw [W64_two, ← Nat.pow_mul, ← Nat.pow_add]; congr 1; omega
  have ht : q.getD (k / 4) 0 < 2 ^ (16 * (k % 4)) := by
    rw [← word_top q h (k / 4)]
    refine Nat.lt_of_le_of_lt (Nat.mod_le _ _) ?_
    rw [Nat.div_lt_iff_lt_mul (Nat.pow_pos W64_pos), Nat.mul_comm, ← e]
    exact hv
  have hv2 := val_set_add q (k / 4) (d * 2 ^ (16 * (k % 4))) (by omega)
  have hw : (d + 1) * 2 ^ (16 * (k % 4)) ≤ W64 := by
    rw [W64_two]
    have h1 : (d + 1) * 2 ^ (16 * (k % 4)) ≤ 2 ^ 16 * 2 ^ (16 * (k % 4)) := Nat.mul_le_mul_right _ (by omega)
    rw [← Nat.pow_add] at h1
    exact Nat.le_trans h1 (Nat.pow_le_pow_right (by omega) (by omega))
  refine ⟨?_, ?_, ?_⟩
  · rw [Nat.or_comm, Nat.mul_comm d, or_apart _ _ _ ht, Nat.add_comm]
  · rw [Nat.add_mul, Nat.one_mul] at hw
    omega
  · rw [hv2, e, Nat.mul_comm d, ← Nat.mul_assoc]
theorem row_shape {e : TypeId} {k : IntKind} {W : World} {base n : Nat} {v : Value} {xs : List Nat} (h : W.ownsRow base e 1 v n (wvs k xs)) (hn : 0 < n) :
    ∃ g cap, v = .slice (some ⟨g, 0, none⟩) n cap ∧ base ≤ g ∧ n ≤ cap ∧ cap ≤ 9223372036854775807 ∧ (∀ j, j < n → W.cell? ⟨g, j, none⟩ = some (.int k ((xs.getD j 0 : Nat) : Int))) ∧ ∀ o, W.frozen? ⟨g, o, none⟩ = false := by
  have hl : xs.length = n := by have := h.1; simpa [wvs] using this
  obtain ⟨_, ⟨rfl, h0⟩ | ⟨g, cap, cur, rfl, hb, hc, hm1, hm, hs, ht⟩⟩ := id h
  · omega
  · refine ⟨g, cap, rfl, hb, hm1, by unfold maxLen at hm; omega, fun j hj => ?_, fun o => ?_⟩
    · have := h.cells rfl j (.int k ((xs.getD j 0 : Nat) : Int)) (by simp [wvs, List.getD, show j < xs.length by omega])
      rw [Addr.add_lit, Nat.zero_add] at this
      exact this
    · unfold World.frozen?
      rw [hc]
      simp

theorem or_shl64 (y x s : Nat) (hy : y < W64) (h : x * 2 ^ s < 18446744073709551616) : bits .or .u64 (y : Int) (IntKind.u64.wrap ((x : Int) * 2 ^ s)) = ((y ||| x * 2 ^ s : Nat) : Int) := by
  have e : ((x : Int) * 2 ^ s) = ((x * 2 ^ s : Nat) : Int) := by simp
  rw [W64_eq] at hy
  rw [e, wrap_u64_nat, Nat.mod_eq_of_lt h, bits_or_u64 _ _ hy h]

set_option maxRecDepth 100000 in
set_option maxHeartbeats 1000000 in
theorem Words_any {v : Value} {ds : List Nat} (w : World) (h : SlD w v ds) (hx : Dig.Wf ds) (hl : ds.length ≤ 10000) :
    Calls Try.prog 22 #[v] w fun e w' => ∃ r, e = .returned r ∧ SlS (fun b => b < w.heap.size) .u64 w' r (toW (Dig.val ds)) ∧ Below w.heap.size w w' := by
  obtain ⟨a, cap, rfl⟩ : ∃ a cap, v = .slice a ds.length cap := let ⟨a, c, e, _⟩ := h; ⟨a, c, e⟩
  obtain ⟨ld, hld⟩ : ∃ ld, ld = ds.length := ⟨_, rfl⟩
  rw [← hld] at h hl ⊢
  have hld64 : (ld : Int) ≤ 10000 := by omega
  have H := Lib.hid (And.intro h (And.intro hx hld))
  clear h hx hld hl
  go_enter Try.func22, Try.ntmps22
  go_wp2_with fail
  go_loopw [3, 4] (fun ov i wr => ∃ k : Nat, ∃ q : List Nat, k ≤ ld ∧ i = .int .i64 k ∧ wr.ownsRow w.heap.size 41 1 ov ((k + 3) / 4) (wvs .u64 q) ∧ Hid (q.length = (k + 3) / 4 ∧ Wf q ∧ val q = Dig.val (ds.take k)) ∧ Below w.heap.size w wr) (fun _ i _ => ld - (intOf i).toNat)
  case atStart => exact ⟨0, [], Nat.zero_le _, rfl, World.ownsRow_nil _ _ _ _, ⟨rfl, Wf.nil, rfl⟩, Below.refl _ _⟩
  case round =>
    obtain ⟨k, q, hk, rfl, hown, hq, hb⟩ := hrel
    by_cases hlt : k < ld
    · have hki : (k : Int) < ld := by omega
      have hw2 : (k : Int).tmod 4 = (k : Int) % 4 := Int.tmod_eq_emod_of_nonneg (by omega)
      have hvk : val q < 2 ^ (16 * k) := by
        rw [hq.out.2.2]
        have h1 := Dig.val_lt (H.out.2.1.take k)
        rw [List.length_take, Nat.min_eq_left (by have := H.out.2.2; omega), Dig.W16_two, ← Nat.pow_mul] at h1
        exact h1
      by_cases h4 : k % 4 = 0
      · have hk4 : ((k : Int) % 4 == 0) = true := by simp; omega
        obtain ⟨v2, W2, hrun, hown2, hb2⟩ := append1 Try.underlying22 info_u64 (by omega) 0 hown hb.size (by omega)
        have HO := Lib.hid hown2
        have HB := Lib.hid (hb.trans hb2)
        have HQ : Hid ((q ++ [0]).length = k / 4 + 1 ∧ Wf (q ++ [0]) ∧ val (q ++ [0]) = Dig.val (ds.take k)) := by
          obtain ⟨e1, e2, e3⟩ := hq.out
          refine ⟨by simp; omega, e2.append (Wf.zeros 1), ?_⟩
          rw [val_append, ← e3]; simp [val]
        clear hown hown2 hb hb2
        go_wp2_with (at_builtin; refine wpList_append_run rfl _ _ _ rfl rfl rfl hrun ?_)
        obtain ⟨q2, hq2⟩ : ∃ q2, q2 = q ++ [0] := ⟨_, rfl⟩
        have hv2 : val q2 < 2 ^ (16 * k) := by rw [hq2, val_append, show val [0] = 0 from rfl, Nat.mul_zero, Nat.add_zero]; exact hvk
        rw [← hq2] at HO HQ
        have HO2 : Hid (W2.ownsRow w.heap.size 41 1 v2 (k / 4 + 1) (wvs .u64 q2)) := Lib.hid (by have := HO.out; rwa [show (k + 3) / 4 + 1 = k / 4 + 1 by omega] at this)
        clear HO hq2 hq hrun hvk h4
        obtain ⟨nq, hnq⟩ : ∃ nq, nq = k / 4 + 1 := ⟨_, rfl⟩
        rw [← hnq] at HO2
        obtain ⟨g, cap2, rfl, hg, hgc, hgm, hcells, hfree⟩ := row_shape HO2.out (by omega)
        have hcq := hcells (k / 4) (by omega)
        have hfq := hfree (k / 4)
        have hkd : k < ds.length := by have := H.out.2.2; omega
        obtain ⟨a', cap', e', g1, g2, g3, g4⟩ := H.out.1.below HB.out
        rcases g4 with g4 | ⟨b0, off, rfl, _, hc⟩
        · subst g4; simp at hkd
        rw [← H.out.2.2] at e'
        cases e'
        have hcd := hc k hkd
        have hdw := H.out.2.1.getD k
        rw [Dig.W16_eq] at hdw
        have hdt : Dig.val (ds.take (k + 1)) = Dig.val (ds.take k) + Dig.W16 ^ k * ds.getD k 0 := Dig.val_take_succ_any ds k
        generalize ds.getD k 0 = d at *
        obtain ⟨s1, s2, s3⟩ := words_step HQ.out.2.1 k d HQ.out.1 hv2 hdw
        have hyw := HQ.out.2.1.getD (k / 4)
        have hdd : d * 2 ^ (16 * (k % 4)) < 18446744073709551616 := by rw [W64_eq] at s2; omega
        have hor := or_shl64 (q2.getD (k / 4) 0) d (16 * (k % 4)) hyw hdd
        rw [s1] at hor
        obtain ⟨nw, hnw⟩ : ∃ nw, nw = q2.getD (k / 4) 0 + d * 2 ^ (16 * (k % 4)) := ⟨_, rfl⟩
        rw [← hnw] at hor s2 s3
        clear hnw s1
        generalize q2.getD (k / 4) 0 = y at *
        have hpi : (k : Int) / 4 < (nq : Int) := by omega
        have hpi0 : 0 ≤ (k : Int) / 4 := by omega
        have hpi1 : ((k : Int) / 4).toNat = k / 4 := by omega
        have hw1 : IntKind.i64.wrap ((k : Int) / 4) = (k : Int) / 4 := IntWalk.i64_in _ (by omega)
        have hm0 : 0 ≤ 16 * ((k : Int) % 4) := by omega
        have hm1 : 16 * ((k : Int) % 4) ≤ 64 := by omega
        have hm2 : (16 * ((k : Int) % 4)).toNat = 16 * (k % 4) := by omega
        have hw3 : IntKind.i64.wrap (16 * ((k : Int) % 4)) = 16 * ((k : Int) % 4) := IntWalk.i64_in _ (by omega)
        have hxw : IntKind.u64.wrap (d : Int) = (d : Int) := by rw [wrap_u64_nat, Nat.mod_eq_of_lt (by omega)]
        have HS := Lib.hid (And.intro s2 (And.intro s3 (And.intro hdt (And.intro hg (And.intro hlt (And.intro hor hnq))))))
        clear hnq s2 s3 hdt hg hcells hfree hc g1 g2 g3 hyw hdd hv2 hdw hlt hk hkd hor hk4
        go_still_tail 19, (by kernel_rfl)
        repeat still_step
        change wpList _ _ _ _ _ W2.drew
        clear hw1 hw2 hw3 hm0 hm1 hm2 hxw hpi0 hpi1
        go_wp2
        obtain ⟨s2, s3, hdt, hg, hlt, hor, hnq⟩ := HS.out
        rw [hor]
        have hset := ownsRow_set HO2.out (k / 4) nw
        refine ⟨⟨k + 1, q2.set (k / 4) nw, by omega, by go_num, ?_, ⟨?_, HQ.out.2.1.set _ _ s2, ?_⟩, (HB.out.setCell (p := ⟨g, k / 4, none⟩) hg _).drew⟩, by simp [intOf]; omega⟩
        · rw [show (k + 1 + 3) / 4 = nq by omega]; exact hset
        · rw [List.length_set, HQ.out.1]; omega
        · rw [s3, HQ.out.2.2, hdt, Dig.W16_two, ← Nat.pow_mul]
      · have hk4 : ((k : Int) % 4 == 0) = false := by simp; omega
        obtain ⟨q2, hq2⟩ : ∃ q2, q2 = q := ⟨_, rfl⟩
        have hv2 : val q2 < 2 ^ (16 * k) := by rw [hq2]; exact hvk
        have HQ : Hid (q2.length = k / 4 + 1 ∧ Wf q2 ∧ val q2 = Dig.val (ds.take k)) := by
          obtain ⟨e1, e2, e3⟩ := hq.out
          rw [hq2]; exact ⟨by omega, e2, e3⟩
        have HO2 : Hid (wr.ownsRow w.heap.size 41 1 u3 (k / 4 + 1) (wvs .u64 q2)) := Lib.hid (by rw [show (k + 3) / 4 = k / 4 + 1 by omega] at hown; rw [hq2]; exact hown)
        have HB := Lib.hid hb
        clear hown hb hq2 hq hvk h4
        go_wp2_with fail
        obtain ⟨W2, rfl⟩ : ∃ W2, W2 = wr := ⟨_, rfl⟩
        obtain ⟨v2, rfl⟩ : ∃ v2, v2 = u3 := ⟨_, rfl⟩
        obtain ⟨nq, hnq⟩ : ∃ nq, nq = k / 4 + 1 := ⟨_, rfl⟩
        rw [← hnq] at HO2
        obtain ⟨g, cap2, rfl, hg, hgc, hgm, hcells, hfree⟩ := row_shape HO2.out (by omega)
        have hcq := hcells (k / 4) (by omega)
        have hfq := hfree (k / 4)
        have hkd : k < ds.length := by have := H.out.2.2; omega
        obtain ⟨a', cap', e', g1, g2, g3, g4⟩ := H.out.1.below HB.out
        rcases g4 with g4 | ⟨b0, off, rfl, _, hc⟩
        · subst g4; simp at hkd
        rw [← H.out.2.2] at e'
        cases e'
        have hcd := hc k hkd
        have hdw := H.out.2.1.getD k
        rw [Dig.W16_eq] at hdw
        have hdt : Dig.val (ds.take (k + 1)) = Dig.val (ds.take k) + Dig.W16 ^ k * ds.getD k 0 := Dig.val_take_succ_any ds k
        generalize ds.getD k 0 = d at *
        obtain ⟨s1, s2, s3⟩ := words_step HQ.out.2.1 k d HQ.out.1 hv2 hdw
        have hyw := HQ.out.2.1.getD (k / 4)
        have hdd : d * 2 ^ (16 * (k % 4)) < 18446744073709551616 := by rw [W64_eq] at s2; omega
        have hor := or_shl64 (q2.getD (k / 4) 0) d (16 * (k % 4)) hyw hdd
        rw [s1] at hor
        obtain ⟨nw, hnw⟩ : ∃ nw, nw = q2.getD (k / 4) 0 + d * 2 ^ (16 * (k % 4)) := ⟨_, rfl⟩
        rw [← hnw] at hor s2 s3
        clear hnw s1
        generalize q2.getD (k / 4) 0 = y at *
        have hpi : (k : Int) / 4 < (nq : Int) := by omega
        have hpi0 : 0 ≤ (k : Int) / 4 := by omega
        have hpi1 : ((k : Int) / 4).toNat = k / 4 := by omega
        have hw1 : IntKind.i64.wrap ((k : Int) / 4) = (k : Int) / 4 := IntWalk.i64_in _ (by omega)
        have hm0 : 0 ≤ 16 * ((k : Int) % 4) := by omega
        have hm1 : 16 * ((k : Int) % 4) ≤ 64 := by omega
        have hm2 : (16 * ((k : Int) % 4)).toNat = 16 * (k % 4) := by omega
        have hw3 : IntKind.i64.wrap (16 * ((k : Int) % 4)) = 16 * ((k : Int) % 4) := IntWalk.i64_in _ (by omega)
        have hxw : IntKind.u64.wrap (d : Int) = (d : Int) := by rw [wrap_u64_nat, Nat.mod_eq_of_lt (by omega)]
        have HS := Lib.hid (And.intro s2 (And.intro s3 (And.intro hdt (And.intro hg (And.intro hlt (And.intro hor hnq))))))
        clear hnq s2 s3 hdt hg hcells hfree hc g1 g2 g3 hyw hdd hv2 hdw hlt hk hkd hor hk4
        go_still_tail 19, (by kernel_rfl)
        repeat still_step
        change wpList _ _ _ _ _ W2.drew
        clear hw1 hw2 hw3 hm0 hm1 hm2 hxw hpi0 hpi1
        go_wp2
        obtain ⟨s2, s3, hdt, hg, hlt, hor, hnq⟩ := HS.out
        rw [hor]
        have hset := ownsRow_set HO2.out (k / 4) nw
        refine ⟨⟨k + 1, q2.set (k / 4) nw, by omega, by go_num, ?_, ⟨?_, HQ.out.2.1.set _ _ s2, ?_⟩, (HB.out.setCell (p := ⟨g, k / 4, none⟩) hg _).drew⟩, by simp [intOf]; omega⟩
        · rw [show (k + 1 + 3) / 4 = nq by omega]; exact hset
        · rw [List.length_set, HQ.out.1]; omega
        · rw [s3, HQ.out.2.2, hdt, Dig.W16_two, ← Nat.pow_mul]
    · have hk' : k = ld := by omega
      have hki : ¬ (k : Int) < ld := by omega
      obtain ⟨hq1, hq2, hq3⟩ := hq.out
      rw [hk', H.out.2.2, List.take_length] at hq3
      have hres : norm q = toW (Dig.val ds) := by rw [← hq3, toW_val hq2]
      have hsl := sl_of_row' hown
      by_cases h0 : q = []
      · subst h0
        have HE : Hid (toW (Dig.val ds) = []) := Lib.hid hres.symm
        obtain ⟨a', cap', rfl, _⟩ := id hsl
        have HS := Lib.hid hsl
        clear hown hq hq3 hk hk' hsl hres hq1 hq2
        simp only [List.length_nil]
        go_wp2_with fail
        go_loop [3] (fun v => v = .slice a' 0 cap') (fun v => 0)
        case atStart => rfl
        case round =>
          obtain rfl := hrel
          go_wp2
          go_ret
          rw [HE.out]
          exact ⟨_, rfl, HS.out, hb⟩
      · have hp : 0 < (k + 3) / 4 := by rw [← hq1]; exact List.length_pos_iff.2 h0
        obtain ⟨g, cap2, rfl, hg, hgc, hgm, hcells, _⟩ := row_shape hown hp
        rw [← hq1] at hcells hgc hp
        have HC := Lib.hid hcells
        have HR := Lib.hid (And.intro hres (And.intro hg (And.intro hgc (And.intro hgm hq1))))
        clear hcells hres hg hgc hgm hown hq hq3 hk hk' hsl
        obtain ⟨nq, hnq⟩ : ∃ nq, nq = (k + 3) / 4 := ⟨_, rfl⟩
        rw [← hnq] at hq1 ⊢
        have HB := Lib.hid hb
        clear hb hq1
        go_wp2_with fail
        go_loop [3] (fun v => ∃ j : Nat, j ≤ q.length ∧ v = .slice (some ⟨g, 0, none⟩) j cap2 ∧ Hid (∀ i, j ≤ i → i < q.length → q.getD i 0 = 0)) (fun v => match v with | .slice _ n _ => n | _ => 0)
        case atStart => exact ⟨nq, by have := HR.out.2.2.2.2; omega, by rw [hnq], fun i h1 h2 => by have := HR.out.2.2.2.2; omega⟩
        case round =>
          obtain ⟨j, hj, rfl, hz⟩ := hrel
          have hrd : ∀ j, j ≤ q.length → SlS (fun b => b < w.heap.size) .u64 wr (.slice (some ⟨g, 0, none⟩) j cap2) (q.take j) := by
            intro j hj
            have hl : (q.take j).length = j := by rw [List.length_take]; omega
            refine ⟨some ⟨g, 0, none⟩, cap2, by rw [hl], by rw [hl]; have := HR.out.2.2.1; omega, HR.out.2.2.2.1, by simp, ?_⟩
            exact RdS.take (.inr ⟨g, 0, rfl, by have := HR.out.2.1; omega, fun i hi => by rw [Nat.zero_add]; exact HC.out i hi⟩) j
          have hrd := Lib.hid hrd
          have hjc : (j : Int) ≤ cap2 := by have := HR.out.2.2.1; omega
          have hjb : (cap2 : Int) ≤ 9223372036854775807 := by have := HR.out.2.2.2.1; omega
          cases j with
          | zero =>
            go_wp2
            go_ret
            refine ⟨_, rfl, ?_, HB.out⟩
            rw [← HR.out.1, norm_of_scan q 0 hj hz.out (.inl rfl)]
            exact hrd.out 0 hj
          | succ j =>
            have hcell := HC.out j (by omega)
            go_wp2
            · have h0 : (((q[j]?.getD 0 : Nat) : Int) == 0) = true := by assumption
              exact ⟨⟨j, by omega, rfl, norm_zero_at (by omega) hz.out h0⟩, Nat.lt_succ_self j⟩
            · have h0 : (((q[j]?.getD 0 : Nat) : Int) == 0) = false := by assumption
              go_ret
              refine ⟨_, rfl, ?_, HB.out⟩
              rw [← HR.out.1, norm_of_scan q (j + 1) hj hz.out (.inr (by simp only [Nat.add_sub_cancel, List.getD_eq_getElem?_getD]; intro e; rw [e] at h0; simp at h0))]
              exact hrd.out (j + 1) hj
end Go.Proofs.Ytocmmabpebbdaaa
