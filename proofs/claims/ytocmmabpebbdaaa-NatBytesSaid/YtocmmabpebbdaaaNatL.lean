/- Bytes. -/
import Derived.Test.YtocmmabpebbdaaaNatJ
import Derived.Test.YtocmmabpebbdaaaBytes
namespace Go.Proofs.Ytocmmabpebbdaaa
open Go.RowKit Go.Shelf

theorem info_u8 : (Try.prog.info? 5).map (fun i => (i.zero, i.size, i.bytes)) = some (some (.int .u8 0), 1, 1) := by kernel_rfl
/-- make([]byte, n) -/
theorem run_make_bytes (n : Nat) (w : World) (hn : n ≤ 1000000000) :
    (Instr.makeSlice 23 (.int .i64 n) (.int .i64 n)).run Try.prog w = .ok (.slice (some ⟨w.heap.size, 0, none⟩) n n) (w.alloc (.cells (wvs .u8 (List.replicate n 0)).toArray 5)) := by
  obtain ⟨i, hi, hz, hs, hb⟩ := info_parts info_u8
  have := run_make (P := Try.prog) w 23 5 i (.int .u8 0) Try.underlying23 hi hz .i64 .i64 n n (by omega) (Int.le_refl _) (by rw [hb]; omega) (by omega)
  rw [this, hs, Int.toNat_natCast, madeCells_zero]

/-- is one list longer than 80 words? -/
theorem tooLong1_any {v : Value} {xs : List Nat} {S : Nat → Prop} (w : World) (h : SlS S .u64 w v xs) {b off cap : Nat} (c0 : w.cell? ⟨b, off, none⟩ = some v) :
    Calls Try.prog 34 #[.slice (some ⟨b, off, none⟩) 1 cap] w fun e w' => e = .returned (.bool (decide (80 < xs.length))) ∧ w = w' := by
  obtain ⟨a, cap, rfl, hlc, hcap, hnil, hr⟩ := h
  clear hr hnil
  go_enter Try.func34, Try.ntmps34
  go_wp2
  refine wp_loop_rounds 2 ?_
  rw [rounds_succ]
  go_wp2
  · have hl : 80 < (xs.length : Int) := by assumption
    have hd : decide (80 < xs.length) = true := decide_eq_true (by omega)
    go_ret
    exact ⟨by rw [hd]; rfl, rfl⟩
  · rw [rounds_succ]
    go_wp2
    have hl' : (xs.length : Int) ≤ 80 := by assumption
    have hd : decide (80 < xs.length) = false := decide_eq_false (by omega)
    go_ret
    exact ⟨by rw [hd]; rfl, rfl⟩

theorem byte_word (xs : List Nat) (h : Wf xs) (p : Nat) : xs.getD (p / 8) 0 / 2 ^ (8 * (p % 8)) % 256 = val xs / 2 ^ (8 * p) % 256 := by
  have hW : W64 = 2 ^ 64 := by rw [W64_eq]
  have key : ∀ k, val xs / W64 ^ k % W64 = xs.getD k 0 := by
    intro k
    by_cases hk : k < xs.length
    · rw [val_take_drop xs k (by omega)]
      have h1 := val_lt (h.take k)
      rw [List.length_take, Nat.min_eq_left (by omega)] at h1
      rw [Nat.add_mul_div_left _ _ (Nat.pow_pos W64_pos), Nat.div_eq_of_lt h1, Nat.zero_add, List.drop_eq_getElem_cons hk, val_cons, Nat.add_mul_mod_self_left]
      have h2 := h.getD k
      rw [List.getD_eq_getElem?_getD, List.getElem?_eq_getElem hk] at h2 ⊢
      exact Nat.mod_eq_of_lt h2
    · rw [List.getD_eq_getElem?_getD, List.getElem?_eq_none (by omega)]
      have h1 := val_lt h
      have h2 : W64 ^ xs.length ≤ W64 ^ k := Nat.pow_le_pow_right W64_pos (by omega)
      rw [Nat.div_eq_of_lt (by omega)]
      rfl
  rw [← key (p / 8), hW, ← Nat.pow_mul]
  have e : 2 ^ (8 * p) = 2 ^ (64 * (p / 8)) * 2 ^ (8 * (p % 8)) := by rw [← Nat.pow_add]; congr 1; omega
  rw [e, ← Nat.div_div_eq_div_mul]
  generalize val xs / 2 ^ (64 * (p / 8)) = m
  have hs : p % 8 < 8 := Nat.mod_lt _ (by omega)
  have e2 : (2 : Nat) ^ 64 = 2 ^ (8 * (p % 8)) * 2 ^ (64 - 8 * (p % 8)) := by rw [← Nat.pow_add]; congr 1; omega
  rw [e2, Nat.mod_mul_right_div_self]
  have e3 : (2 : Nat) ^ (64 - 8 * (p % 8)) = 256 * 2 ^ (56 - 8 * (p % 8)) := by
    rw [show 64 - 8 * (p % 8) = 8 + (56 - 8 * (p % 8)) by omega, Nat.pow_add]
  rw [e3, Nat.mod_mul_right_mod]

/-- one more byte is laid -/
theorem row_set (l : List Nat) (n k : Nat) (hl : l.length = n) (hk : k < n) : (l.take k ++ List.replicate (n - k) 0).set k (l.getD k 0) = l.take (k + 1) ++ List.replicate (n - (k + 1)) 0 := by
  subst hl
  have h1 : (l.take k).length = k := by rw [List.length_take]; omega
  rw [List.set_append_right _ _ (by omega), h1, Nat.sub_self, show l.length - k = (l.length - (k + 1)) + 1 by omega, List.replicate_succ, List.set_cons_zero, List.take_succ_eq_append_getElem hk, List.append_assoc]
  simp [List.getD, hk]
theorem wrap_u8_nat (n : Nat) : IntKind.u8.wrap (n : Int) = ((n % 256 : Nat) : Int) := by
  rw [IntKind.wrap_u8]; omega

set_option maxRecDepth 100000 in
set_option maxHeartbeats 1000000 in
theorem Bytes_any {v : Value} {xs : List Nat} (w : World) (h : Sl w v xs) (hx : Wf xs) (hl : xs.length ≤ 80) (n : Nat) (hn : n ≤ 640) (hlt : val xs < 2 ^ (8 * n)) :
    Calls Try.prog 31 #[v, .int .i64 n] w fun e w' => ∃ b, e = .returned (.tuple #[.slice (some ⟨b, 0, none⟩) n n, .int .i64 0]) ∧ Below w.heap.size w w' ∧ Blk .u8 5 w' b (bytesOf (val xs) n) := by
  obtain ⟨a, an, acap, rfl⟩ := h.shape
  have hd : decide (80 < xs.length) = false := decide_eq_false (by omega)
  have hb0 : Below w.heap.size w (w.alloc (.cells #[.slice a an acap] 22)) := (Below.refl _ w).alloc (Nat.le_refl _) _
  have ht := fun (c : Nat) => tooLong1_any (w.alloc (.cells #[.slice a an acap] 22)) (h.below hb0) (b := w.heap.size) (off := 0) (cap := c) (cellNew rfl rfl)
  rw [hd] at ht
  have hbt := Bits_any (w.alloc (.cells #[.slice a an acap] 22)) (h.below hb0) hx (by omega)
  have hnb := (nbits_le_iff (val xs) (8 * n)).2 hlt
  generalize nbits (val xs) = nb at *
  have hmk := fun W => run_make_bytes n W (by omega)
  have hn1 : (n : Int) ≤ 640 := by omega
  have hnb1 : (nb : Int) ≤ 8 * (n : Int) := by omega
  have HT := Lib.hid ht
  have HB := Lib.hid hbt
  have HS := Lib.hid h
  have HX := Lib.hid hx
  clear ht hbt hd hlt hnb hl h hx
  go_enter Try.func31, Try.ntmps31
  go_wp2_with (first | (go_at_call 34; refine (HT.out _).mono ?_; rintro e w' ⟨rfl, rfl⟩) | (go_at_call 18; refine HB.out.mono ?_; rintro e w' ⟨rfl, rfl⟩))
  have k0 : Blk .u8 5 ((w.alloc (.cells #[.slice a an acap] 22)).alloc (.cells (wvs .u8 (List.replicate n 0)).toArray 5)) (w.heap.size + 1) (List.replicate n 0) := by
    have := Blk.new .u8 5 (w.alloc (.cells #[.slice a an acap] 22)) (List.replicate n 0)
    rwa [World.size_alloc] at this
  have hb1 : Below w.heap.size w ((w.alloc (.cells #[.slice a an acap] 22)).alloc (.cells (wvs .u8 (List.replicate n 0)).toArray 5)) := hb0.alloc (by simp) _
  generalize (w.alloc (.cells #[.slice a an acap] 22)).alloc (.cells (wvs .u8 (List.replicate n 0)).toArray 5) = W0 at *
  go_loopw [29] (fun i wr => ∃ k : Nat, k ≤ n ∧ i = .int .i64 k ∧ Below w.heap.size w wr ∧ Blk .u8 5 wr (w.heap.size + 1) ((bytesOf (val xs) n).take k ++ List.replicate (n - k) 0)) (fun i _ => n - (intOf i).toNat)
  case atStart => exact ⟨0, Nat.zero_le _, rfl, hb1, by simpa using k0⟩
  case round =>
    obtain ⟨k, hk, rfl, hb, hkb⟩ := hrel
    by_cases hlt : k < n
    · obtain ⟨p, hp⟩ : ∃ p, p = n - 1 - k := ⟨_, rfl⟩
      have hpi : (n : Int) - 1 - (k : Int) = (p : Int) := by omega
      have hw := word_int ((p : Int) / 8) (by omega) wr (HS.out.below hb)
      have hbyte := byte_word xs HX.out p
      have hxw := HX.out.getD (p / 8)
      rw [show ((p : Int) / 8).toNat = p / 8 by omega] at hw
      rw [hp, ← bytesOf_getD (val xs) n k hlt, ← hp] at hbyte
      generalize xs.getD (p / 8) 0 = x at *
      have hlen : ((bytesOf (val xs) n).take k ++ List.replicate (n - k) 0).length = n := by rw [List.length_append, List.length_take, bytesOf_length, List.length_replicate]; omega
      have hcell := hkb.cell k (by omega)
      have hfree := hkb.free k none
      have hw1 : IntKind.i64.wrap ((p : Int) / 8) = (p : Int) / 8 := IntWalk.i64_in _ (by omega)
      have hw2 : (p : Int).tmod 8 = (p : Int) % 8 := Int.tmod_eq_emod_of_nonneg (by omega)
      have hm0 : 0 ≤ 8 * ((p : Int) % 8) := by omega
      have hki : (k : Int) < n := by omega
      have HW := Lib.hid hw
      have HK := Lib.hid hkb
      have HY := Lib.hid hbyte
      have HLen := Lib.hid hlen
      have HP := Lib.hid hp
      clear hw hkb hbyte hlen hk hlt hp k0 hmk hb1 hb0
      go_wp2_with (go_at_call 45; refine HW.out.mono ?_; rintro e w' ⟨rfl, rfl⟩)
      have hv : ((x : Int) / 2 ^ (8 * (p % 8)) % 256) = (((bytesOf (val xs) n).getD k 0 : Nat) : Int) := by rw [← HY.out]; simp
      rw [hv]
      refine ⟨⟨k + 1, by omega, by go_num, hb.setCell (by show w.heap.size ≤ w.heap.size + 1; omega) _, ?_⟩, by simp [intOf]; omega⟩
      have hk2 := HK.out.set k ((bytesOf (val xs) n).getD k 0)
      rw [row_set _ n k (bytesOf_length _ _) (by omega)] at hk2
      exact hk2
    · have hk' : n = k := by omega
      subst hk'
      go_wp2
      go_ret2
      refine ⟨_, rfl, hb, ?_⟩
      rw [Nat.sub_self, List.replicate_zero, List.append_nil, List.take_of_length_le (by rw [bytesOf_length]; exact Nat.le_refl _)] at hkb
      exact hkb

/-- a byte laid over a word -/
theorem or_shl (y x s : Nat) (hy : y < W64) (hx : x < 256) (hs : s + 8 ≤ 64) : bits .or .u64 (y : Int) (IntKind.u64.wrap ((x : Int) * 2 ^ s)) = ((y ||| x * 2 ^ s : Nat) : Int) := by
  have h1 : x * 2 ^ s < 256 * 2 ^ s := Nat.mul_lt_mul_of_pos_right hx (Nat.pow_pos (by omega))
  have h2 : 256 * 2 ^ s ≤ 2 ^ 64 := by
    rw [show 256 = 2 ^ 8 from rfl, ← Nat.pow_add]
    exact Nat.pow_le_pow_right (by omega) (by omega)
  have h : x * 2 ^ s < 18446744073709551616 := by omega
  have e : ((x : Int) * 2 ^ s) = ((x * 2 ^ s : Nat) : Int) := by simp
  rw [W64_eq] at hy
  rw [e, wrap_u64_nat, Nat.mod_eq_of_lt h, bits_or_u64 _ _ hy h]
/-- one byte more -/
theorem take_fromB (bs : List Nat) (k : Nat) (h : k < bs.length) : fromB (bs.take (k + 1)) = fromB (bs.take k) * 256 + bs.getD k 0 := by
  rw [List.take_succ_eq_append_getElem h, fromB_snoc]
  simp [List.getD, h]

set_option maxRecDepth 100000 in
set_option maxHeartbeats 1000000 in
theorem FromBytes_any {v : Value} {bs : List Nat} (w : World) (h : SlB w v bs) (hx : ∀ x ∈ bs, x < 256) (hl : bs.length ≤ 640) :
    Calls Try.prog 29 #[v] w fun e w' => RetNum w (fromB bs) e w' := by
  obtain ⟨a, cap, rfl, hlc, hcap, hnil, hr⟩ := h
  have hS : SlB w (.slice a bs.length cap) bs := ⟨a, cap, rfl, hlc, hcap, hnil, hr⟩
  obtain ⟨n, hn⟩ : ∃ n, n = bs.length := ⟨_, rfl⟩
  rw [← hn] at hl hlc ⊢
  obtain ⟨m, hm⟩ : ∃ m, m = (n + 7) / 8 := ⟨_, rfl⟩
  have hl1 : (n : Int) ≤ 640 := by omega
  have hmi : ((n : Int) + 8 - 1) / 8 = (m : Int) := by omega
  have hmi2 : ((n : Int) + 8 - 1).tdiv 8 = (m : Int) := by rw [Int.tdiv_eq_ediv_of_nonneg (by omega)]; exact hmi
  have hmw : IntKind.i64.wrap (m : Int) = (m : Int) := IntWalk.i64_in _ (by omega)
  have hmk := fun W => run_make_words m W (by omega)
  have HS := Lib.hid hS
  have HM := Lib.hid hm
  have HN := Lib.hid hn
  have HX := Lib.hid hx
  clear hS hm hn hx hr hlc hcap hnil hl
  go_enter Try.func29, Try.ntmps29
  go_wp2_with fail
  have k0 : Blk .u64 41 (w.alloc (.cells (wvs .u64 (List.replicate m 0)).toArray 41)) w.heap.size (List.replicate m 0) := Blk.new .u64 41 w (List.replicate m 0)
  have hb1 : Below w.heap.size w (w.alloc (.cells (wvs .u64 (List.replicate m 0)).toArray 41)) := (Below.refl _ w).alloc (Nat.le_refl _) _
  generalize w.alloc (.cells (wvs .u64 (List.replicate m 0)).toArray 41) = W0 at *
  go_loopw [19] (fun i wr => ∃ k : Nat, ∃ q : List Nat, k ≤ n ∧ i = .int .i64 k ∧ Below w.heap.size w wr ∧ Blk .u64 41 wr w.heap.size q ∧ q.length = m ∧ Wf q ∧ val q = 2 ^ (8 * (n - k)) * fromB (bs.take k)) (fun i _ => n - (intOf i).toNat)
  case atStart => exact ⟨0, List.replicate m 0, Nat.zero_le _, rfl, hb1, k0, by simp, Wf.zeros _, by rw [val_zeros, List.take_zero]; rfl⟩
  case round =>
    obtain ⟨k, q, hk, rfl, hb, hkb, hql, hqw, hqv⟩ := hrel
    by_cases hlt : k < n
    · obtain ⟨p, hp⟩ : ∃ p, p = n - 1 - k := ⟨_, rfl⟩
      have hpi : (n : Int) - 1 - (k : Int) = (p : Int) := by omega
      have hpm : p / 8 < m := by have := HM.out; omega
      obtain ⟨a', cap', e', g1, g2, g3, g4⟩ := HS.out.below hb
      have hkn : k < bs.length := by have := HN.out; omega
      rcases g4 with g4 | ⟨b, off, rfl, _, hc⟩
      · subst g4; simp at hkn
      cases e'
      have hck := hc k hkn
      have hx8 : bs.getD k 0 < 256 := HX.out _ (by rw [List.getD_eq_getElem?_getD, List.getElem?_eq_getElem hkn]; exact List.getElem_mem hkn)
      have htk := take_fromB bs k hkn
      generalize hxd : bs.getD k 0 = x at *
      have hcq := hkb.cell (p / 8) (by omega)
      have hfq := hkb.free (p / 8) none
      have hyw := hqw.getD (p / 8)
      obtain ⟨y, hy⟩ : ∃ y, y = q.getD (p / 8) 0 := ⟨_, rfl⟩
      rw [← hy] at hcq hyw
      have hpi2 : (p : Int) / 8 < (m : Int) := by omega
      have hpi3 : ((p : Int) / 8).toNat = p / 8 := by omega
      have hpi4 : 0 ≤ (p : Int) / 8 := by omega
      have hw1 : IntKind.i64.wrap ((p : Int) / 8) = (p : Int) / 8 := IntWalk.i64_in _ (by omega)
      have hw2 : (p : Int).tmod 8 = (p : Int) % 8 := Int.tmod_eq_emod_of_nonneg (by omega)
      have hm0 : 0 ≤ 8 * ((p : Int) % 8) := by omega
      have hm1 : 8 * ((p : Int) % 8) ≤ 64 := by omega
      have hw3 : IntKind.i64.wrap (8 * ((p : Int) % 8)) = 8 * ((p : Int) % 8) := IntWalk.i64_in _ (by omega)
      have hm2 : (8 * ((p : Int) % 8)).toNat = 8 * (p % 8) := by omega
      have hxw : IntKind.u64.wrap (x : Int) = (x : Int) := by rw [wrap_u64_nat, Nat.mod_eq_of_lt (by omega)]
      have hki : (k : Int) < n := by omega
      have HK := Lib.hid hkb
      have HQ := Lib.hid (And.intro hql (And.intro hqw hqv))
      have HP := Lib.hid (And.intro hp hpm)
      have HT := Lib.hid htk
      have HY := Lib.hid hy
      have HYw := Lib.hid hyw
      have HX8 := Lib.hid hx8
      have HKN := Lib.hid (And.intro hk (And.intro hlt hkn))
      clear hkb hql hqw hqv hp hpm htk hy hyw hx8 hk hlt hkn hc g1 g2 g3 hxd hmk k0 hb1
      go_wp2_with fail
      go_still_tail 13, (by kernel_rfl)
      repeat still_step
      change wpList _ _ _ _ _ wr.drew
      clear hw1 hw2 hm0 hxw hw3 hm1 hm2
      go_wp2
      obtain ⟨hql, hqw, hqv⟩ := HQ.out
      obtain ⟨hp, hpm⟩ := HP.out
      obtain ⟨hk, hlt, hkn⟩ := HKN.out
      have hs8 : 8 * (p % 8) + 8 ≤ 64 := by omega
      rw [or_shl y x (8 * (p % 8)) HYw.out HX8.out hs8]
      have hz : ∃ mm, val q = 2 ^ (8 * p + 8) * mm := ⟨fromB (bs.take k), by rw [hqv]; congr 2; omega⟩
      have hset := setAt_val hqw (8 * p) 8 x (by omega) (by omega) HX8.out hz
      rw [show 8 * p / 64 = p / 8 by omega, show 8 * p % 64 = 8 * (p % 8) by omega, ← HY.out] at hset
      have hk2 := HK.out.set (p / 8) (y ||| x * 2 ^ (8 * (p % 8)))
      refine ⟨⟨k + 1, q.set (p / 8) (y ||| x * 2 ^ (8 * (p % 8))), by omega, by go_num, (hb.setCell (by show w.heap.size ≤ w.heap.size; omega) _).drew, hk2, by simpa using hql, hset.2, ?_⟩, by simp [intOf]; omega⟩
      rw [hset.1, hqv, HT.out, Nat.mul_add, Nat.mul_comm (fromB (bs.take k)) 256, ← Nat.mul_assoc, show 8 * (n - k) = 8 * (n - (k + 1)) + 8 by omega, Nat.pow_add]
      rw [show 8 * p = 8 * (n - (k + 1)) by omega, Nat.mul_comm x]
    · have hk' : n = k := by omega
      subst hk'
      obtain ⟨lq, hlq⟩ : ∃ lq, lq = (norm q).length := ⟨_, rfl⟩
      have hi := inForm_exact wr (hkb.slN hql (by have := HM.out; omega) (S := fun _ => False) (fun h => h)) hlq
      have HI := Lib.hid hi
      have HK := Lib.hid hkb
      have HQ := Lib.hid (And.intro hql (And.intro hqw (And.intro hqv hlq)))
      clear hkb hi hql hqw hqv hlq hmk k0 hb1
      go_wp2_with (go_at_call 36; refine HI.out.mono ?_; rintro e w' ⟨rfl, rfl⟩)
      go_ret2
      refine ⟨_, rfl, ?_, hb⟩
      obtain ⟨q1, q2, q3, q4⟩ := HQ.out
      rw [Nat.sub_self, Nat.mul_zero, Nat.pow_zero, Nat.one_mul, HN.out, List.take_length] at q3
      rw [← q3, toW_val q2]
      have h1 := HK.out.rd 0 q.length (by omega) (S := fun _ => False) (fun h => h)
      rw [List.drop_zero, List.take_length] at h1
      show Sl _ (.slice (some ⟨w.heap.size, 0, none⟩) lq m) _
      exact ⟨_, m, by rw [q4], by rw [← q1]; exact norm_length_le q, by have := HM.out; omega, by simp, h1.norm⟩
end Go.Proofs.Ytocmmabpebbdaaa
