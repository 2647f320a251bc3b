/- The document's own answer: FromBytes. -/
import Derived.Test.YtocmmabpebbdaaaRefG
namespace Go.Proofs.Ytocmmabpebbdaaa.Dig
/-- x, below 2^d, laid at the place p over nothing -/
theorem setAt_val {q : List Nat} (h : Wf q) (p d x : Nat) (hp : p < 16 * q.length) (hd : p % 16 + d ≤ 16) (hx : x < 2 ^ d) (hz : ∃ m, val q = 2 ^ (p + d) * m) :
    val (q.set (p / 16) (q.getD (p / 16) 0 ||| x * 2 ^ (p % 16))) = val q + x * 2 ^ p ∧ Wf (q.set (p / 16) (q.getD (p / 16) 0 ||| x * 2 ^ (p % 16))) := by
  obtain ⟨m, hm⟩ := hz
  have hi : p / 16 < q.length := by omega
  have hs : p % 16 < 16 := Nat.mod_lt _ (by omega)
  have hpp : 16 * (p / 16) + p % 16 = p := by omega
  have hg := h.getD (p / 16)
  generalize p / 16 = i at *
  generalize p % 16 = s at *
  have hxs : x * 2 ^ s < 2 ^ (s + d) := by rw [Nat.add_comm, Nat.pow_add]; exact Nat.mul_lt_mul_of_pos_right hx (Nat.pow_pos (by omega))
  have hx16 : x * 2 ^ s < 2 ^ 16 := Nat.lt_of_lt_of_le hxs (Nat.pow_le_pow_right (by omega) hd)
  refine ⟨?_, h.set _ _ (by rw [W16_two] at hg ⊢; exact Nat.or_lt_two_pow hg hx16)⟩
  have hWi : W16 ^ i = 2 ^ (16 * i) := by rw [W16_two, ← Nat.pow_mul]
  have e0 := val_take_drop q (i + 1) (by omega)
  rw [val_take_succ q i hi] at e0
  have hlow := val_lt (h.take i)
  rw [List.length_take, Nat.min_eq_left (by omega)] at hlow
  have e1 : 2 ^ (p + d) * m = W16 ^ i * (2 ^ (s + d) * m) := by
    rw [hWi, ← Nat.mul_assoc, ← Nat.pow_add]; congr 2; omega
  have e2 : W16 ^ (i + 1) * val (q.drop (i + 1)) = W16 ^ i * (2 ^ (s + d) * (2 ^ (16 - (s + d)) * val (q.drop (i + 1)))) := by
    rw [← Nat.mul_assoc (2 ^ (s + d)), ← Nat.pow_add, show s + d + (16 - (s + d)) = 16 by omega, ← W16_two, Nat.pow_succ, Nat.mul_assoc]
  have hz : val (q.take i) = 0 := by
    have e3 : val (q.take i) + W16 ^ i * (q.getD i 0 + 2 ^ (s + d) * (2 ^ (16 - (s + d)) * val (q.drop (i + 1)))) = W16 ^ i * (2 ^ (s + d) * m) := by
      rw [Nat.mul_add, ← e2, ← e1, ← hm, e0]; omega
    have e4 : (val (q.take i) + W16 ^ i * (q.getD i 0 + 2 ^ (s + d) * (2 ^ (16 - (s + d)) * val (q.drop (i + 1))))) % W16 ^ i = 0 := by rw [e3]; exact Nat.mul_mod_right _ _
    rw [Nat.add_mul_mod_self_left, Nat.mod_eq_of_lt hlow] at e4
    exact e4
  have hw : ∃ c, q.getD i 0 = 2 ^ (s + d) * c := by
    have e3 : W16 ^ i * (q.getD i 0 + 2 ^ (s + d) * (2 ^ (16 - (s + d)) * val (q.drop (i + 1)))) = W16 ^ i * (2 ^ (s + d) * m) := by
      rw [Nat.mul_add, ← e2, ← e1, ← hm, e0, hz]; omega
    have e4 := Nat.eq_of_mul_eq_mul_left (Nat.pow_pos W16_pos) e3
    refine ⟨m - 2 ^ (16 - (s + d)) * val (q.drop (i + 1)), ?_⟩
    rw [Nat.mul_sub]
    omega
  obtain ⟨c, hc⟩ := hw
  have hlen : i < (q.set i (q.getD i 0 ||| x * 2 ^ s)).length := by simpa using hi
  have hor : q.getD i 0 ||| x * 2 ^ s = q.getD i 0 + x * 2 ^ s := by
    rw [hc]; exact (Nat.two_pow_add_eq_or_of_lt hxs c).symm
  have e5 := val_take_drop (q.set i (q.getD i 0 ||| x * 2 ^ s)) (i + 1) (by omega)
  rw [val_take_succ _ i hlen] at e5
  have e6 : (q.set i (q.getD i 0 ||| x * 2 ^ s)).take i = q.take i := by rw [List.take_set_of_le (Nat.le_refl _)]
  have e7 : (q.set i (q.getD i 0 ||| x * 2 ^ s)).drop (i + 1) = q.drop (i + 1) := by rw [List.drop_set_of_lt (by omega)]
  have e8 : (q.set i (q.getD i 0 ||| x * 2 ^ s)).getD i 0 = q.getD i 0 ||| x * 2 ^ s := by simp [List.getD, hi]
  rw [e6, e7, e8, hor, Nat.mul_add] at e5
  have e9 : W16 ^ i * (x * 2 ^ s) = x * 2 ^ p := by
    rw [hWi, Nat.mul_left_comm, ← Nat.pow_add]; congr 2
  rw [hor, e5, e9]
  omega
end Go.Proofs.Ytocmmabpebbdaaa.Dig
namespace Go.Proofs.Ytocmmabpebbdaaa
open Go.RowKit
theorem or_shl32 (y x s : Nat) (hy : y < Dig.W16) (hx : x < 256) (hs : s + 8 ≤ 16) : bits .or .u32 (y : Int) (IntKind.u32.wrap ((x : Int) * 2 ^ s)) = ((y ||| x * 2 ^ s : Nat) : Int) := by
  have h1 : x * 2 ^ s < 256 * 2 ^ s := Nat.mul_lt_mul_of_pos_right hx (Nat.pow_pos (by omega))
  have h2 : 256 * 2 ^ s ≤ 2 ^ 16 := by
    rw [show 256 = 2 ^ 8 from rfl, ← Nat.pow_add]
    exact Nat.pow_le_pow_right (by omega) (by omega)
  have h : x * 2 ^ s < 4294967296 := by omega
  have e : ((x : Int) * 2 ^ s) = ((x * 2 ^ s : Nat) : Int) := by simp
  rw [Dig.W16_eq] at hy
  rw [e, wrap_u32_nat, Nat.mod_eq_of_lt h, bits_or_u32 _ _ (by omega) h]
set_option maxRecDepth 100000 in
set_option maxHeartbeats 1000000 in
theorem FromBytes_ref {v : Value} {bs : List Nat} (w : World) (h : SlB w v bs) (hx : ∀ x ∈ bs, x < 256) (hl : bs.length ≤ 1000) :
    Calls Try.prog 30 #[v] w fun e w' => ∃ r, e = .returned r ∧ SlS (fun b => b < w.heap.size) .u32 w' r (Dig.toW (fromB bs)) ∧ Below w.heap.size w w' := by
  obtain ⟨a, cap, rfl, hlc, hcap, hnil, hr⟩ := h
  have hS : SlB w (.slice a bs.length cap) bs := ⟨a, cap, rfl, hlc, hcap, hnil, hr⟩
  obtain ⟨n, hn⟩ : ∃ n, n = bs.length := ⟨_, rfl⟩
  rw [← hn] at hl hlc ⊢
  obtain ⟨m, hm⟩ : ∃ m, m = n / 2 + 1 := ⟨_, rfl⟩
  have hl1 : (n : Int) ≤ 1000 := by omega
  have hmi : (n : Int) / 2 + 1 = (m : Int) := by omega
  have hmi2 : (n : Int).tdiv 2 = (n : Int) / 2 := Int.tdiv_eq_ediv_of_nonneg (by omega)
  have hmw : IntKind.i64.wrap (m : Int) = (m : Int) := IntWalk.i64_in _ (by omega)
  have hmk := fun W => run_make_digits m W (by omega)
  have HS := Lib.hid hS
  have HM := Lib.hid hm
  have HN := Lib.hid hn
  have HX := Lib.hid hx
  clear hS hm hn hx hr hlc hcap hnil hl
  go_enter Try.func30, Try.ntmps30
  go_wp2_with fail
  have k0 : Blk .u32 56 (w.alloc (.cells (wvs .u32 (List.replicate m 0)).toArray 56)) w.heap.size (List.replicate m 0) := Blk.new .u32 56 w (List.replicate m 0)
  have hb1 : Below w.heap.size w (w.alloc (.cells (wvs .u32 (List.replicate m 0)).toArray 56)) := (Below.refl _ w).alloc (Nat.le_refl _) _
  generalize w.alloc (.cells (wvs .u32 (List.replicate m 0)).toArray 56) = W0 at *
  go_loopw [4] (fun i wr => ∃ k : Nat, ∃ q : List Nat, k ≤ n ∧ i = .int .i64 k ∧ Below w.heap.size w wr ∧ Blk .u32 56 wr w.heap.size q ∧ q.length = m ∧ Dig.Wf q ∧ Dig.val q = 2 ^ (8 * (n - k)) * fromB (bs.take k)) (fun i _ => n - (intOf i).toNat)
  case atStart => exact ⟨0, List.replicate m 0, Nat.zero_le _, rfl, hb1, k0, by simp, Dig.Wf.zeros _, by rw [Dig.val_zeros, List.take_zero]; rfl⟩
  case round =>
    obtain ⟨k, q, hk, rfl, hb, hkb, hql, hqw, hqv⟩ := hrel
    by_cases hlt : k < n
    · obtain ⟨p, hp⟩ : ∃ p, p = n - 1 - k := ⟨_, rfl⟩
      have hpi : (n : Int) - 1 - (k : Int) = (p : Int) := by omega
      have hpm : p / 2 < m := by have := HM.out; omega
      obtain ⟨a', cap', e', g1, g2, g3, g4⟩ := HS.out.below hb
      have hkn : k < bs.length := by have := HN.out; omega
      rcases g4 with g4 | ⟨b, off, rfl, _, hc⟩
      · subst g4; simp at hkn
      cases e'
      have hck := hc k hkn
      have hx8 : bs.getD k 0 < 256 := HX.out _ (by rw [List.getD_eq_getElem?_getD, List.getElem?_eq_getElem hkn]; exact List.getElem_mem hkn)
      have htk := take_fromB bs k hkn
      generalize hxd : bs.getD k 0 = x at *
      have hcq := hkb.cell (p / 2) (by omega)
      have hfq := hkb.free (p / 2) none
      have hyw := hqw.getD (p / 2)
      obtain ⟨y, hy⟩ : ∃ y, y = q.getD (p / 2) 0 := ⟨_, rfl⟩
      rw [← hy] at hcq hyw
      have hpi2 : (p : Int) / 2 < (m : Int) := by omega
      have hpi3 : ((p : Int) / 2).toNat = p / 2 := by omega
      have hpi4 : 0 ≤ (p : Int) / 2 := by omega
      have hw1 : IntKind.i64.wrap ((p : Int) / 2) = (p : Int) / 2 := IntWalk.i64_in _ (by omega)
      have hw2 : (p : Int).tmod 2 = (p : Int) % 2 := Int.tmod_eq_emod_of_nonneg (by omega)
      have hm0 : 0 ≤ 8 * ((p : Int) % 2) := by omega
      have hm1 : 8 * ((p : Int) % 2) ≤ 16 := by omega
      have hw3 : IntKind.i64.wrap (8 * ((p : Int) % 2)) = 8 * ((p : Int) % 2) := IntWalk.i64_in _ (by omega)
      have hm2 : (8 * ((p : Int) % 2)).toNat = 8 * (p % 2) := by omega
      have hxw : IntKind.u32.wrap (x : Int) = (x : Int) := by rw [wrap_u32_nat, Nat.mod_eq_of_lt (by omega)]
      have hki : (k : Int) < n := by omega
      have HK := Lib.hid hkb
      have HQ := Lib.hid (And.intro hql (And.intro hqw hqv))
      have HP := Lib.hid (And.intro hp hpm)
      have HT := Lib.hid htk
      have HY := Lib.hid hy
      have HYw := Lib.hid hyw
      have HX8 := Lib.hid hx8
      have HKN := Lib.hid (And.intro hk (And.intro hlt hkn))
      clear hkb hql hqw hqv hp hpm htk hy hyw hx8 hk hlt hkn hc g1 g2 g3 hxd hmk k0 hb1
      go_wp2_with fail
      go_still_tail 19, (by kernel_rfl)
      repeat still_step
      change wpList _ _ _ _ _ wr.drew
      clear hw1 hw2 hm0 hxw hw3 hm1 hm2
      go_wp2
      obtain ⟨hql, hqw, hqv⟩ := HQ.out
      obtain ⟨hp, hpm⟩ := HP.out
      obtain ⟨hk, hlt, hkn⟩ := HKN.out
      have hs8 : 8 * (p % 2) + 8 ≤ 16 := by omega
      have hor := or_shl32 y x (8 * (p % 2)) HYw.out HX8.out hs8
      rw [IntKind.wrap_u32] at hor
      rw [hor]
      have hz : ∃ mm, Dig.val q = 2 ^ (8 * p + 8) * mm := ⟨fromB (bs.take k), by rw [hqv]; congr 2; omega⟩
      have hset := Dig.setAt_val hqw (8 * p) 8 x (by omega) (by omega) HX8.out hz
      rw [show 8 * p / 16 = p / 2 by omega, show 8 * p % 16 = 8 * (p % 2) by omega, ← HY.out] at hset
      have hk2 := HK.out.set (p / 2) (y ||| x * 2 ^ (8 * (p % 2)))
      refine ⟨⟨k + 1, q.set (p / 2) (y ||| x * 2 ^ (8 * (p % 2))), by omega, by go_num, (hb.setCell (by show w.heap.size ≤ w.heap.size; omega) _).drew, hk2, by simpa using hql, hset.2, ?_⟩, by simp [intOf]; omega⟩
      rw [hset.1, hqv, HT.out, Nat.mul_add, Nat.mul_comm (fromB (bs.take k)) 256, ← Nat.mul_assoc, show 8 * (n - k) = 8 * (n - (k + 1)) + 8 by omega, Nat.pow_add]
      rw [show 8 * p = 8 * (n - (k + 1)) by omega, Nat.mul_comm x]
    · have hk' : n = k := by omega
      subst hk'
      have htr := trim_any wr (hkb.slN hql (by have := HM.out; omega) (S := fun b => b < w.heap.size) (fun h => by omega))
      rw [Nat.sub_self, Nat.mul_zero, Nat.pow_zero, Nat.one_mul, HN.out, List.take_length] at hqv
      rw [← dnorm_same, ← Dig.toW_val hqw, hqv] at htr
      have HT := Lib.hid htr
      clear htr hkb hql hqw hqv hmk k0 hb1
      go_wp2_with (go_at_call 33; refine HT.out.mono ?_; rintro e w' ⟨⟨r, rfl, hr⟩, hw⟩; obtain rfl := hw.symm; clear hw)
      go_ret
      exact ⟨_, rfl, hr, hb⟩
end Go.Proofs.Ytocmmabpebbdaaa
