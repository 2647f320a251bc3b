/- The document's own answer: Bytes. -/
import Derived.Test.YtocmmabpebbdaaaRefH
namespace Go.Proofs.Ytocmmabpebbdaaa
open Go.RowKit

theorem row_set_back (l : List Nat) (j : Nat) (hk : j < l.length) : (List.replicate (j + 1) 0 ++ l.drop (j + 1)).set j (l.getD j 0) = List.replicate j 0 ++ l.drop j := by
  have h1 : (List.replicate j (0 : Nat)).length = j := by simp
  rw [List.replicate_succ', List.append_assoc, List.set_append_right _ _ (by omega), h1, Nat.sub_self, List.singleton_append, List.set_cons_zero, List.drop_eq_getElem_cons hk]
  simp [List.getD, hk]
theorem dbyte_word (xs : List Nat) (h : Dig.Wf xs) (p : Nat) : xs.getD (p / 2) 0 / 2 ^ (8 * (p % 2)) % 256 = Dig.val xs / 2 ^ (8 * p) % 256 := by
  have hW : Dig.W16 = 2 ^ 16 := by rw [Dig.W16_eq]
  have key : ∀ k, Dig.val xs / Dig.W16 ^ k % Dig.W16 = xs.getD k 0 := by
    intro k
    by_cases hk : k < xs.length
    · rw [Dig.val_take_drop xs k (by omega)]
      have h1 := Dig.val_lt (h.take k)
      rw [List.length_take, Nat.min_eq_left (by omega)] at h1
      rw [Nat.add_mul_div_left _ _ (Nat.pow_pos Dig.W16_pos), Nat.div_eq_of_lt h1, Nat.zero_add, List.drop_eq_getElem_cons hk, Dig.val_cons, Nat.add_mul_mod_self_left]
      have h2 := h.getD k
      rw [List.getD_eq_getElem?_getD, List.getElem?_eq_getElem hk] at h2 ⊢
      exact Nat.mod_eq_of_lt h2
    · rw [List.getD_eq_getElem?_getD, List.getElem?_eq_none (by omega)]
      have h1 := Dig.val_lt h
      have h2 : Dig.W16 ^ xs.length ≤ Dig.W16 ^ k := Nat.pow_le_pow_right Dig.W16_pos (by omega)
      rw [Nat.div_eq_of_lt (by omega)]
      rfl
  rw [← key (p / 2), hW, ← Nat.pow_mul]
  have e : 2 ^ (8 * p) = 2 ^ (16 * (p / 2)) * 2 ^ (8 * (p % 2)) := by rw [← Nat.pow_add]; congr 1; omega
  rw [e, ← Nat.div_div_eq_div_mul]
  generalize Dig.val xs / 2 ^ (16 * (p / 2)) = m
  have hs : p % 2 < 2 := Nat.mod_lt _ (by omega)
  have e2 : (2 : Nat) ^ 16 = 2 ^ (8 * (p % 2)) * 2 ^ (16 - 8 * (p % 2)) := by rw [← Nat.pow_add]; congr 1; omega
  rw [e2, Nat.mod_mul_right_div_self]
  have e3 : (2 : Nat) ^ (16 - 8 * (p % 2)) = 256 * 2 ^ (8 - 8 * (p % 2)) := by
    rw [show 16 - 8 * (p % 2) = 8 + (8 - 8 * (p % 2)) by omega, Nat.pow_add]
  rw [e3, Nat.mod_mul_right_mod]

set_option maxRecDepth 100000 in
set_option maxHeartbeats 1000000 in
theorem Bytes_ref {v : Value} {xs : List Nat} (w : World) (h : SlD w v xs) (hx : Dig.Wf xs) (n : Nat) (hn : n ≤ 1000) :
    Calls Try.prog 32 #[v, .int .i64 n] w fun e w' => e = .returned (.slice (some ⟨w.heap.size, 0, none⟩) n n) ∧ Below w.heap.size w w' ∧ Blk .u8 5 w' w.heap.size (bytesOf (Dig.val xs) n) := by
  obtain ⟨a, an, acap, rfl⟩ := h.shape
  have hmk := fun W => run_make_bytes n W (by omega)
  have hn1 : (n : Int) ≤ 1000 := by omega
  have HS := Lib.hid h
  have HX := Lib.hid hx
  clear h hx
  go_enter Try.func32, Try.ntmps32
  go_wp2_with fail
  have k0 : Blk .u8 5 (w.alloc (.cells (wvs .u8 (List.replicate n 0)).toArray 5)) w.heap.size (List.replicate n 0) := Blk.new .u8 5 w _
  have hb1 : Below w.heap.size w (w.alloc (.cells (wvs .u8 (List.replicate n 0)).toArray 5)) := (Below.refl _ w).alloc (Nat.le_refl _) _
  generalize w.alloc (.cells (wvs .u8 (List.replicate n 0)).toArray 5) = W0 at *
  go_loopw [6] (fun i wr => ∃ k : Nat, k ≤ n ∧ i = .int .i64 k ∧ Below w.heap.size w wr ∧ Blk .u8 5 wr w.heap.size (List.replicate (n - k) 0 ++ (bytesOf (Dig.val xs) n).drop (n - k))) (fun i _ => n - (intOf i).toNat)
  case atStart => exact ⟨0, Nat.zero_le _, rfl, hb1, by rw [Nat.sub_zero, List.drop_of_length_le (by rw [bytesOf_length]; exact Nat.le_refl _), List.append_nil]; exact k0⟩
  case round =>
    obtain ⟨k, hk, rfl, hb, hkb⟩ := hrel
    by_cases hlt : k < n
    · obtain ⟨p, hp⟩ : ∃ p, p = n - 1 - k := ⟨_, rfl⟩
      have hpi : (n : Int) - 1 - (k : Int) = (p : Int) := by omega
      have hpn : (p : Int) < n := by omega
      have hw := at_int ((k : Int) / 2) (by omega) wr (HS.out.below hb)
      have hbyte := dbyte_word xs HX.out k
      have hxw := HX.out.getD (k / 2)
      rw [show ((k : Int) / 2).toNat = k / 2 by omega] at hw
      have hgd := bytesOf_getD (Dig.val xs) n p (by omega)
      rw [show 8 * (n - 1 - p) = 8 * k by omega, ← hbyte] at hgd
      generalize xs.getD (k / 2) 0 = x at *
      rw [show n - k = p + 1 by omega] at hkb
      have hlen : (List.replicate (p + 1) 0 ++ (bytesOf (Dig.val xs) n).drop (p + 1)).length = n := by rw [List.length_append, List.length_replicate, List.length_drop, bytesOf_length]; omega
      have hcell := hkb.cell p (by omega)
      have hfree := hkb.free p none
      have hw1 : IntKind.i64.wrap ((k : Int) / 2) = (k : Int) / 2 := IntWalk.i64_in _ (by omega)
      have hw2 : (k : Int).tmod 2 = (k : Int) % 2 := Int.tmod_eq_emod_of_nonneg (by omega)
      have hm0 : 0 ≤ 8 * ((k : Int) % 2) := by omega
      have hw3 : IntKind.i64.wrap (8 * ((k : Int) % 2)) = 8 * ((k : Int) % 2) := IntWalk.i64_in _ (by omega)
      have hki : (k : Int) < n := by omega
      have HW := Lib.hid hw
      have HK := Lib.hid hkb
      have HY := Lib.hid hgd
      have HP := Lib.hid (And.intro hp (And.intro hlt hk))
      clear hw hkb hgd hbyte hlen hk hlt hp k0 hmk hb1
      go_wp2_with fail
      go_at_call 46
      refine HW.out.mono ?_
      rintro e w1 ⟨rfl, hw⟩
      obtain rfl := hw.symm
      clear hw
      go_wp2_with fail
      have hv : ((x : Int) / 2 ^ (8 * (k % 2)) % 256) = (((bytesOf (Dig.val xs) n).getD p 0 : Nat) : Int) := by rw [HY.out]; simp
      obtain ⟨hp, hlt, hk⟩ := HP.out
      rw [hv]
      refine ⟨⟨k + 1, by omega, by go_num, hb.setCell (by show w.heap.size ≤ w.heap.size; omega) _, ?_⟩, by simp [intOf]; omega⟩
      have hk2 := HK.out.set p ((bytesOf (Dig.val xs) n).getD p 0)
      rw [row_set_back _ p (by rw [bytesOf_length]; omega)] at hk2
      rw [show n - (k + 1) = p by omega]
      exact hk2
    · have hk' : k = n := by omega
      have g1 : ¬ (k : Int) < n := by omega
      have HK := Lib.hid hkb
      have HB := Lib.hid hb
      have HE := Lib.hid hk'
      clear hkb hb hk hk' hlt hmk k0 hb1
      go_wp2
      go_ret
      refine ⟨rfl, HB.out, ?_⟩
      have := HK.out
      rw [HE.out, Nat.sub_self, List.replicate_zero, List.nil_append, List.drop_zero] at this
      exact this
end Go.Proofs.Ytocmmabpebbdaaa
