/- NatBytes. -/
import Derived.Test.YtocmmabpebbdaaaLawC
import Derived.Test.YtocmmabpebbdaaaNatL
namespace Go.Proofs.Ytocmmabpebbdaaa
open Go.RowKit

theorem St.reroot {w W : World} {L : List Ent} (h : St w W L) : St W W L := ⟨Below.refl _ _, h.env⟩

theorem conv_bytes {W : World} {v : Value} {bs : List Nat} (h : SlB W v bs) : (convert 23 9 v).run Try.prog W = .ok (.string (strOfNums (bs.map Int.ofNat))) W := by
  obtain ⟨a, cap, rfl, hlc, hcap, hnil, hr⟩ := h
  by_cases hb : bs = []
  · subst hb
    rw [run_convert_bytes_string W 23 9 5 _ _ cap Try.underlying23 Try.underlying5 Try.underlying9]
    cases a <;> simp [Conv.bytesToString, loadCells, strOfNums] <;> rfl
  · rcases hr with hr | ⟨b, off, rfl, _, hc⟩
    · exact absurd hr hb
    · exact run_convert_bytes_arg W 23 5 Try.underlying23 Try.underlying5 b off bs.length cap (bs.map Int.ofNat) (by simp) (fun i hi => by
        rw [hc i hi]
        simp [List.getD, hi]) 9 Try.underlying9

theorem and_one_u8 (x : Nat) (hx : x < 256) : bits .and .u8 (x : Int) 1 = ((x % 2 : Nat) : Int) := by
  have h1 : ∀ x : Fin 256, bits .and .u8 ((x.1 : Nat) : Int) 1 = ((x.1 % 2 : Nat) : Int) := by decide +kernel
  exact h1 ⟨x, hx⟩
/-- a bit of a byte is a bit of the number -/
theorem bit_byte (v k : Nat) : v / 2 ^ (8 * (k / 8)) % 256 / 2 ^ (k % 8) % 2 = v / 2 ^ k % 2 := by
  have hs : k % 8 < 8 := Nat.mod_lt _ (by omega)
  have e : 2 ^ k = 2 ^ (8 * (k / 8)) * 2 ^ (k % 8) := by rw [← Nat.pow_add]; congr 1; omega
  rw [e, ← Nat.div_div_eq_div_mul]
  generalize v / 2 ^ (8 * (k / 8)) = m
  have e2 : 256 = 2 ^ (k % 8) * (2 * 2 ^ (7 - k % 8)) := by
    rw [← Nat.pow_succ', ← Nat.pow_add, show k % 8 + (7 - k % 8 + 1) = 8 by omega]
  rw [e2, Nat.mod_mul_right_div_self, Nat.mod_mul_right_mod]

set_option maxRecDepth 100000 in
set_option maxHeartbeats 4000000 in
theorem NatBytes_main (w : World) {v1 v2 : Value} {xs bs : List Nat} (h1 : Sl w v1 xs) (h2 : SlB w v2 bs) (x1 : Wf xs) (x2 : ∀ x ∈ bs, x < 256) (l1 : xs.length ≤ 20) (l2 : bs.length ≤ 200) :
    Calls Try.prog 6 #[v1, v2] w fun e w' => e = .returned (.bool true) ∧ Below w.heap.size w w' := by
  obtain ⟨a1, c1, rfl⟩ : ∃ a c, v1 = .slice a xs.length c := let ⟨a, c, e, _⟩ := h1; ⟨a, c, e⟩
  obtain ⟨a2, c2, rfl⟩ : ∃ a c, v2 = .slice a bs.length c := let ⟨a, c, e, _⟩ := h2; ⟨a, c, e⟩
  obtain ⟨n1, hn1⟩ : ∃ n1, n1 = xs.length := ⟨_, rfl⟩
  obtain ⟨n2, hn2⟩ : ∃ n2, n2 = bs.length := ⟨_, rfl⟩
  have hE := (St.nil w).add h1 x1 l1
  simp only [List.nil_append] at hE
  have g1' : ¬ (20 : Int) < n1 := by omega
  have g2' : ¬ (200 : Int) < n2 := by omega
  have hb1 := Bits_any w h1 x1 (by omega)
  obtain ⟨nb, hnb⟩ : ∃ nb, nb = nbits (val xs) := ⟨_, rfl⟩
  obtain ⟨n, hn⟩ : ∃ n, n = (nb + 7) / 8 := ⟨_, rfl⟩
  have hnb20 : nb ≤ 1280 := by
    obtain ⟨K, hK⟩ : ∃ K, K = 1280 := ⟨_, rfl⟩
    rw [hnb, ← hK]
    refine (nbits_le_iff _ _).2 (Nat.lt_of_lt_of_le (val_lt x1) ?_)
    rw [W64_two, ← Nat.pow_mul]
    exact Nat.pow_le_pow_right (by omega) (by omega)
  have hlt : val xs < 2 ^ (8 * n) := (nbits_le_iff _ _).1 (by omega)
  have hBy := Bytes_any w h1 x1 (by omega) n (by omega) hlt
  rw [← hnb] at hb1
  rw [← hn1] at hb1 hBy hE h1 ⊢
  rw [← hn2] at h2 ⊢
  have hni : ((nb : Int) + 7).tdiv 8 = (n : Int) := by rw [Int.tdiv_eq_ediv_of_nonneg (by omega)]; omega
  have hni2 : ((nb : Int) + 7) / 8 = (n : Int) := by omega
  have hnw : IntKind.i64.wrap (n : Int) = (n : Int) := IntWalk.i64_in _ (by omega)
  have hnbi : (nb : Int) ≤ 1280 := by omega
  have hni3 : (n : Int) ≤ 160 := by omega
  have hcl : (toW (val xs)).length ≤ 20 := toW_length_le (Nat.lt_of_lt_of_le (val_lt x1) (Nat.pow_le_pow_right W64_pos l1))
  have hfl := fromB_lt bs x2
  have hdl : (toW (fromB bs)).length ≤ 25 := by
    obtain ⟨K, hK⟩ : ∃ K, K = 25 := ⟨_, rfl⟩
    rw [← hK]
    refine toW_length_le (Nat.lt_of_lt_of_le hfl ?_)
    rw [W64_two, ← Nat.pow_mul]
    exact Nat.pow_le_pow_right (by omega) (by omega)
  -- what is told of the bytes of the number
  have hbit0 : val xs / 2 ^ nb % 2 = 0 := by rw [hnb, Nat.div_eq_of_lt (lt_two_nbits _)]
  have hfb := fromB_bytesOf (val xs) n hlt
  have hbf := bytesOf_fromB bs x2
  rw [← hn2] at hbf hfl
  have H1 := Lib.hid (And.intro h1 (And.intro x1 (And.intro x2 (And.intro l1 (And.intro l2 (And.intro hn1 hn2))))))
  have H2 := Lib.hid (And.intro hnb (And.intro hn (And.intro hnb20 hlt)))
  have H3 := Lib.hid (And.intro hcl (And.intro hfl hdl))
  have H4 := Lib.hid hbit0
  have H5 := Lib.hid hfb
  have H6 := Lib.hid hbf
  have HB1 := Lib.hid hb1
  have HBy := Lib.hid hBy
  have HS2 := Lib.hid h2
  have HE := Lib.hid hE
  clear h1 x1 x2 l1 l2 hn1 hn2 hnb hn hnb20 hlt hcl hfl hdl hbit0 hfb hbf hb1 hBy h2 hE
  go_enter Try.func6, Try.ntmps6
  go_wp2_with fail
  clear g1' g2'
  go_at_call 18
  refine HB1.out.mono ?_
  rintro e w' ⟨rfl, hw⟩
  obtain rfl := hw.symm
  clear HB1 hw
  go_wp2_with fail
  go_at_call 31
  refine HBy.out.mono ?_
  rintro e W1 ⟨b1, rfl, hB1, hk1⟩
  clear HBy
  have hE1 := (HE.out.go hB1).reroot
  have HS2' := Lib.hid (HS2.out.below hB1)
  have HK1 := Lib.hid hk1
  have hfr := FromBytes_any W1 (v := .slice (some ⟨b1, 0, none⟩) n n) (hk1.slN (bytesOf_length _ _) (by omega) (fun h => h)) (bytesOf_lt _ _) (by rw [bytesOf_length]; omega)
  rw [H5.out] at hfr
  have HFr := Lib.hid hfr
  clear hk1 HE HS2 hfr
  go_wp2_with fail
  go_at_call 29
  refine HFr.out.mono ?_
  rintro e W2 ⟨c, rfl, hc, hB2⟩
  clear HFr
  replace hE1 := (hE1.go hB2).add hc (toW_wf _) H3.out.1
  simp only [List.nil_append, List.cons_append] at hE1
  have hfr := FromBytes_any W2 (HS2'.out.below hB2) H1.out.2.2.1 (by have := H1.out.2.2.2.2.1; omega)
  have HFr := Lib.hid hfr
  clear hfr hc
  go_wp2_with fail
  go_at_call 29
  refine HFr.out.mono ?_
  rintro e W3 ⟨d, rfl, hd, hB3⟩
  clear HFr
  have hBy := Bytes_any W3 hd (toW_wf _) (by have := H3.out.2.2; omega) n2 (by have := H1.out.2.2.2.2; omega) (by rw [val_toW]; exact H3.out.2.1)
  rw [val_toW, H6.out] at hBy
  have HBy := Lib.hid hBy
  have hB13 := Below.follow hB2 hB3
  have hE3 := hE1.go hB3
  clear hBy hd hE1 hB2 hB3
  go_wp2_with fail
  go_at_call 31
  refine HBy.out.mono ?_
  rintro e W4 ⟨b4, rfl, hB4, hk4⟩
  clear HBy
  have hB14 := Below.follow hB13 hB4
  have hE4 := (hE3.go hB4).reroot
  have HB4 := Lib.hid (Below.follow hB1 hB14)
  have HK1' := Lib.hid (HK1.out.below hB14)
  have HS4 := Lib.hid (HS2'.out.below hB14)
  have HK4 := Lib.hid hk4
  clear hk4 hE3 hB1 hB4 hB13 hB14 HK1 HS2'
  go_wp2_with fail
  go_at_call 21
  refine (Of_st hE4 0 rfl (by decide)).mono ?_
  rintro e W5 ⟨o, rfl, hE5⟩
  simp only [List.nil_append, List.cons_append] at hE5
  clear hE4
  go_wp2_with fail
  go_at_call 20
  refine (Same_st hE5 1 2 rfl rfl rfl).mono ?_
  rintro e W ⟨rfl, hE⟩
  clear hE5
  have hcm := conv_bytes ((HK4.out.slN H1.out.2.2.2.2.2.2.symm (by have := H1.out.2.2.2.2; omega) (S := fun _ => False) (fun h => h)).below hE.below)
  have hcb := conv_bytes (HS4.out.below hE.below)
  generalize strOfNums (bs.map Int.ofNat) = S at *
  have HK := Lib.hid (HK1'.out.below hE.below)
  have HB := Lib.hid (Below.follow HB4.out hE.below)
  have hEr := hE.reroot
  have HE := Lib.hid hEr
  clear hEr hE HB4 HK1' HS4 HK4
  -- the highest byte is not 0
  have htop : 0 < n → (bytesOf (val xs) n).getD 0 0 ≠ 0 := by
    intro hp
    rw [bytesOf_getD _ _ _ hp]
    obtain ⟨e1, e2, e3, e4⟩ := H2.out
    have h5 : ¬ nbits (val xs) ≤ 8 * (n - 1) := by omega
    rw [nbits_le_iff] at h5
    have h6 : val xs / 2 ^ (8 * (n - 1 - 0)) < 256 := by
      rw [Nat.div_lt_iff_lt_mul (Nat.pow_pos (by omega)), show (256 : Nat) = 2 ^ 8 from rfl, ← Nat.pow_add, show 8 + 8 * (n - 1 - 0) = 8 * n by omega]
      exact e4
    rw [Nat.mod_eq_of_lt h6]
    have h7 : 0 < val xs / 2 ^ (8 * (n - 1 - 0)) := Nat.div_pos (by rw [Nat.sub_zero]; omega) (Nat.pow_pos (by omega))
    omega
  have hc0 : 0 < n → W.cell? ⟨b1, 0, none⟩ = some (.int .u8 (((bytesOf (val xs) n).getD 0 0 : Nat) : Int)) := fun hp => HK.out.cell 0 (by rw [bytesOf_length]; exact hp)
  have HT := Lib.hid (And.intro htop hc0)
  clear htop hc0
  have hcases : ((0 : Int) < n ∧ ∃ y0 : Nat, W.cell? ⟨b1, 0, none⟩ = some (.int .u8 (y0 : Int)) ∧ ((y0 : Int) == 0) = false) ∨ ¬ (0 : Int) < n := by
    by_cases hp : 0 < n
    · exact .inl ⟨by omega, _, HT.out.2 hp, by have := HT.out.1 hp; simp; exact this⟩
    · exact .inr (by omega)
  clear HT
  rcases hcases with ⟨hpi, y0, hc0, ht1⟩ | hpi
  all_goals
    go_wp2_with fail
    clear hcm hcb hni hni2 hnw hpi
    go_loopw [14] (fun i wr => ∃ k q : Nat, k ≤ 8 * n ∧ i = .int .i64 k ∧ wr = W.drewN q) (fun i _ => 8 * n - (intOf i).toNat)
    case atStart => exact ⟨0, 0, Nat.zero_le _, rfl, rfl⟩
    case round =>
      obtain ⟨k, q, hk, rfl, hwq⟩ := hrel
      have hwh : wr.heap = W.heap := by rw [hwq]; rfl
      by_cases hlt : k < 8 * n
      · obtain ⟨j, hj⟩ : ∃ j, j = n - 1 - k / 8 := ⟨_, rfl⟩
        have hji : (n : Int) - 1 - (k : Int) / 8 = (j : Int) := by omega
        have hjn : (j : Int) < n := by omega
        have hkn : (k : Int) < 8 * (n : Int) := by omega
        have hcell := (show Blk .u8 5 wr b1 (bytesOf (val xs) n) from HK.out.carry (by rw [hwh])).cell j (by rw [bytesOf_length]; omega)
        have hbb := bit_byte (val xs) k
        rw [bytesOf_getD _ _ _ (by omega), show 8 * (n - 1 - j) = 8 * (k / 8) by omega] at hcell
        have hy : val xs / 2 ^ (8 * (k / 8)) % 256 < 256 := Nat.mod_lt _ (by omega)
        have hbit := fun (W' : World) (hW : W'.heap = wr.heap) => Bit_any k (by omega) W' ((HE.out.env 0 _ rfl).sl.heap (hW.trans hwh)) H1.out.2.1
        have hbt : val xs / 2 ^ k % 2 < 2 := Nat.mod_lt _ (by omega)
        generalize val xs / 2 ^ (8 * (k / 8)) % 256 = y at *
        generalize val xs / 2 ^ k % 2 = bt at *
        have hyk : y / 2 ^ (k % 8) < 256 := Nat.lt_of_le_of_lt (Nat.div_le_self _ _) hy
        have hand : bits .and .u8 ((y : Int) / 2 ^ (k % 8)) 1 = (bt : Int) := by
          rw [show ((y : Int) / 2 ^ (k % 8)) = ((y / 2 ^ (k % 8) : Nat) : Int) by simp, and_one_u8 _ hyk, hbb]
        have hw1 : IntKind.i64.wrap ((k : Int) / 8) = (k : Int) / 8 := IntWalk.i64_in _ (by omega)
        have hw2 : (k : Int).tmod 8 = (k : Int) % 8 := Int.tmod_eq_emod_of_nonneg (by omega)
        have hw3 : IntKind.i64.wrap ((n : Int) - 1) = (n : Int) - 1 := IntWalk.i64_in _ (by omega)
        have hw4 : IntKind.i64.wrap (j : Int) = (j : Int) := IntWalk.i64_in _ (by omega)
        have hw5 : IntKind.u64.wrap (bt : Int) = (bt : Int) := by rw [wrap_u64_nat, Nat.mod_eq_of_lt (by omega)]
        have hm0 : 0 ≤ (k : Int) % 8 := by omega
        have hm1 : (k : Int) % 8 ≤ 8 := by omega
        have hm2 : ((k : Int) % 8).toNat = k % 8 := by omega
        have hq0 : 0 ≤ (k : Int) / 8 := by omega
        have hni8 : (n : Int) ≤ 160 := by omega
        have HBi := Lib.hid hbit
        have HJ := Lib.hid (And.intro hj (And.intro hlt hk))
        have HWq := Lib.hid hwq
        clear hbit hj hlt hk hbb hy hbt hyk hwq hwh
        go_wp2_with fail
        go_still_tail 16, (by kernel_rfl)
        repeat still_step
        still_call (HBi.out _ rfl)
        repeat still_step
        refine wpStill_nil ?_
        change wpList _ _ _ _ _ wr.drew
        clear hw1 hw2 hw3 hw4 hw5 hm0 hm1 hm2 hand hcell
        go_wp2
        obtain ⟨hj, hlt, hk⟩ := HJ.out
        exact ⟨⟨k + 1, q + 1, by omega, by go_num, by rw [HWq.out]; rfl⟩, by simp [intOf]; omega⟩
      · have hk' : k = 8 * n := by omega
        have hkn : ¬ (k : Int) < 8 * (n : Int) := by omega
        have hbits := Bits_any wr ((HE.out.env 0 _ rfl).sl.heap hwh) H1.out.2.1 (Nat.le_trans H1.out.2.2.2.1 (by omega))
        rw [← H2.out.1] at hbits
        have hbit := Bit_any nb (by omega) wr ((HE.out.env 0 _ rfl).sl.heap hwh) H1.out.2.1
        rw [H4.out] at hbit
        have hend : St w wr [] := ⟨Below.follow HB.out (by rw [hwq]; exact below_drewN (Below.refl _ _) _), fun i e he => by simp at he⟩
        by_cases hnb0 : nb = 0
        · have hnbz : ((nb : Int) == 0) = true := by simp [hnb0]
          have HBs := Lib.hid hbits
          have HBi := Lib.hid hbit
          clear hbits hbit hk' hk hwq hwh hnb0
          go_wp2_with (first | (go_at_call 18; refine HBs.out.mono ?_; rintro e w' ⟨rfl, hw⟩; obtain rfl := hw.symm) | (go_at_call 23; refine HBi.out.mono ?_; rintro e w' ⟨rfl, hw⟩; obtain rfl := hw.symm))
          go_at_call 9
          refine (wakes_any w wr [] hend).mono ?_
          rintro e W9 ⟨rfl, hE9⟩
          go_wp2_with fail
          go_ret
          exact ⟨rfl, hE9.below⟩
        · obtain ⟨m, hm⟩ : ∃ m, m = nb - 1 := ⟨_, rfl⟩
          have hmi : (nb : Int) - 1 = (m : Int) := by omega
          have hbit2 := Bit_any m (by omega) wr ((HE.out.env 0 _ rfl).sl.heap hwh) H1.out.2.1
          have h1 : val xs / 2 ^ m % 2 = 1 := by
            have e1 := H2.out.1
            have h5 : ¬ nbits (val xs) ≤ m := by omega
            rw [nbits_le_iff] at h5
            have h6 := lt_two_nbits (val xs)
            rw [← e1, show nb = m + 1 by omega, Nat.pow_succ, Nat.mul_comm] at h6
            have h7 : val xs / 2 ^ m < 2 := (Nat.div_lt_iff_lt_mul (Nat.pow_pos (by omega))).2 h6
            have h8 : 0 < val xs / 2 ^ m := Nat.div_pos (by omega) (Nat.pow_pos (by omega))
            omega
          rw [h1] at hbit2
          have hnbz : ((nb : Int) == 0) = false := by simp; omega
          have HBs := Lib.hid hbits
          have HBi := Lib.hid hbit
          have HBj := Lib.hid hbit2
          have HNe := Lib.hid hnb0
          clear hbits hbit hbit2 hk' hk hwq hwh hnb0 h1 hm
          go_wp2_with fail
          go_at_call 18
          refine HBs.out.mono ?_
          rintro e w' ⟨rfl, hw⟩
          obtain rfl := hw.symm
          clear hw
          go_wp2_with fail
          go_at_call 23
          refine HBi.out.mono ?_
          rintro e w' ⟨rfl, hw⟩
          obtain rfl := hw.symm
          clear hw
          go_wp2_with fail
          go_at_call 18
          refine HBs.out.mono ?_
          rintro e w' ⟨rfl, hw⟩
          obtain rfl := hw.symm
          clear hw
          go_wp2_with fail
          go_at_call 18
          refine HBs.out.mono ?_
          rintro e w' ⟨rfl, hw⟩
          obtain rfl := hw.symm
          clear hw
          go_wp2_with fail
          go_at_call 23
          refine HBj.out.mono ?_
          rintro e w' ⟨rfl, hw⟩
          obtain rfl := hw.symm
          clear hw
          go_wp2_with fail
          go_at_call 9
          refine (wakes_any w wr [] hend).mono ?_
          rintro e W9 ⟨rfl, hE9⟩
          go_wp2_with fail
          go_ret
          exact ⟨rfl, hE9.below⟩

set_option maxRecDepth 100000 in
set_option maxHeartbeats 4000000 in
theorem NatBytes_any (w : World) {v1 v2 : Value} {xs bs : List Nat} (h1 : Sl w v1 xs) (h2 : SlB w v2 bs) (x1 : Wf xs) (x2 : ∀ x ∈ bs, x < 256) :
    Calls Try.prog 6 #[v1, v2] w fun e w' => e = .returned (.bool true) ∧ Below w.heap.size w w' := by
  by_cases hg : 20 < xs.length ∨ 200 < bs.length
  · obtain ⟨a1, c1, rfl⟩ : ∃ a c, v1 = .slice a xs.length c := let ⟨a, c, e, _⟩ := h1; ⟨a, c, e⟩
    obtain ⟨a2, c2, rfl⟩ : ∃ a c, v2 = .slice a bs.length c := let ⟨a, c, e, _⟩ := h2; ⟨a, c, e⟩
    have hE := St.nil w
    clear h1 h2 x1 x2
    generalize xs.length = n1 at *
    generalize bs.length = n2 at *
    clear xs bs
    by_cases g1 : 20 < n1
    · have g1' : (20 : Int) < n1 := by omega
      clear g1 hg
      go_enter Try.func6, Try.ntmps6
      go_wp2_with fail
      go_at_call 9
      refine (wakes_any w w [] hE).mono ?_
      rintro e W ⟨rfl, hE⟩
      go_wp2_with fail
      go_ret
      exact ⟨rfl, hE.below⟩
    · have g1' : ¬ (20 : Int) < n1 := by omega
      have g2' : (200 : Int) < n2 := by omega
      clear g1 hg
      go_enter Try.func6, Try.ntmps6
      go_wp2_with fail
      go_at_call 9
      refine (wakes_any w w [] hE).mono ?_
      rintro e W ⟨rfl, hE⟩
      go_wp2_with fail
      go_ret
      exact ⟨rfl, hE.below⟩
  · exact NatBytes_main w h1 h2 x1 x2 (by omega) (by omega)
end Go.Proofs.Ytocmmabpebbdaaa
