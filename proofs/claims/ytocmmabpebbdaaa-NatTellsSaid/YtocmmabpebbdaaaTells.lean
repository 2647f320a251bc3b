/- The statement NatTells is proved: at every input the law NatTells answers true and leaves its arguments as they were. Conditions: none. -/
import Derived.Test.YtocmmabpebbdaaaRows
import Derived.Test.YtocmmabpebbdaaaTellG
import Derived.Test.YtocmmabpebbdaaaOpen
namespace Go.Proofs.Ytocmmabpebbdaaa
open Go.ChangeShapes Go.WideShapes Go.ChangeAt Go.RowKit

set_option maxRecDepth 100000 in
set_option maxHeartbeats 4000000 in
theorem NatTells_any (w : World) {v1 v2 v3 : Value} {xs ys bs : List Nat} (h1 : Sl w v1 xs) (h2 : Sl w v2 ys) (h3 : SlB w v3 bs) (x1 : Wf xs) (x2 : Wf ys) (x3 : ∀ x ∈ bs, x < 256)
    (i n : Int) (hi : -9223372036854775808 ≤ i ∧ i < 9223372036854775808) (hn : -9223372036854775808 ≤ n ∧ n < 9223372036854775808) :
    Calls Try.prog 3 #[v1, v2, .int .i64 i, v3, .int .i64 n] w fun e w' => e = .returned (.bool true) ∧ Below w.heap.size w w' := by
  by_cases hg : 100 < xs.length ∨ 100 < ys.length ∨ 700 < bs.length ∨ 700 < n
  · obtain ⟨a1, c1, rfl⟩ := shut h1
    obtain ⟨a2, c2, rfl⟩ := shut h2
    obtain ⟨a3, c3, rfl⟩ := shut h3
    have hb0 := (Below.refl w.heap.size w).alloc (Nat.le_refl _) (.cells #[.slice a1 xs.length c1, .slice a2 ys.length c2] 22)
    have hgr := fun (c : Nat) => great2_any (w.alloc (.cells #[.slice a1 xs.length c1, .slice a2 ys.length c2] 22)) (h1.below hb0) (h2.below hb0) (b := w.heap.size) (off := 0) (cap := c) (cellNew rfl rfl) (cellNew rfl rfl)
    have hwk := wakes_any w (w.alloc (.cells #[.slice a1 xs.length c1, .slice a2 ys.length c2] 22)) [] ⟨hb0, fun i e he => by simp at he⟩
    clear h1 h2 h3 x1 x2 x3 hb0 hi
    by_cases hx : 100 < xs.length ∨ 100 < ys.length
    · rw [decide_eq_true hx] at hgr
      generalize xs.length = n1 at *
      generalize ys.length = n2 at *
      generalize bs.length = n3 at *
      have HGr := Lib.hid hgr
      have HW := Lib.hid hwk
      clear hgr hwk hx hg hn
      go_enter Try.func3, Try.ntmps3
      go_wp2_with fail
      go_at_call 8
      refine (HGr.out _).mono ?_
      rintro e w' ⟨rfl, hw⟩
      obtain rfl := hw
      go_wp2_with fail
      go_at_call 9
      refine HW.out.mono ?_
      rintro e W ⟨rfl, hS⟩
      go_wp2_with fail
      go_ret
      exact ⟨rfl, hS.below⟩
    · rw [decide_eq_false hx] at hgr
      by_cases h7 : 700 < bs.length
      · have g3 : (700 : Int) < bs.length := by omega
        generalize xs.length = n1 at *
        generalize ys.length = n2 at *
        generalize bs.length = n3 at *
        have HGr := Lib.hid hgr
        have HW := Lib.hid hwk
        clear hgr hwk hx hg hn h7
        go_enter Try.func3, Try.ntmps3
        go_wp2_with fail
        go_at_call 8
        refine (HGr.out _).mono ?_
        rintro e w' ⟨rfl, hw⟩
        obtain rfl := hw
        go_wp2_with fail
        go_at_call 9
        refine HW.out.mono ?_
        rintro e W ⟨rfl, hS⟩
        go_wp2_with fail
        go_ret
        exact ⟨rfl, hS.below⟩
      · have g3 : ¬ (700 : Int) < bs.length := by omega
        have gn : (700 : Int) < n := by omega
        generalize xs.length = n1 at *
        generalize ys.length = n2 at *
        generalize bs.length = n3 at *
        have HGr := Lib.hid hgr
        have HW := Lib.hid hwk
        clear hgr hwk hx hg hn h7
        go_enter Try.func3, Try.ntmps3
        go_wp2_with fail
        go_at_call 8
        refine (HGr.out _).mono ?_
        rintro e w' ⟨rfl, hw⟩
        obtain rfl := hw
        go_wp2_with fail
        go_at_call 9
        refine HW.out.mono ?_
        rintro e W ⟨rfl, hS⟩
        go_wp2_with fail
        go_ret
        exact ⟨rfl, hS.below⟩
  · exact Tells_main w h1 h2 h3 x1 x2 x3 i n hi ⟨hn.1, by omega⟩ (by omega) (by omega) (by omega)

theorem wf_i64 (n : Int) (h : (Lit.int .i64 n).wf = true) : -9223372036854775808 ≤ n ∧ n < 9223372036854775808 := by
  have h1 : IntKind.i64.min = -9223372036854775808 := by decide
  have h2 : IntKind.i64.max = 9223372036854775807 := by decide
  rw [Lit.wf, h1, h2] at h
  simp only [Bool.and_eq_true, decide_eq_true_eq] at h
  omega

theorem trodAll_push {H : Type} {enc : TypeId × Value → H} {P : Program} {w : World} {base : Nat} {spare : Nat → Bool} {held : Bool} {t : TypeId} {ts : List TypeId} {v : Value} {vs : List Value} {d : DataW H} {ds : List (DataW H)} {p p' : List MemPlace}
    (h : DataW.Trod enc P w base spare held t v d p) (hs : DataW.TrodAll enc P w base spare held ts vs ds p') : DataW.TrodAll enc P w base spare held (t :: ts) (v :: vs) (d :: ds) (p ++ p') := ⟨p, p', h, hs, rfl⟩

set_option maxRecDepth 100000 in
theorem tells_lifted (os : Os) (started : os.Started) (H : Type) (enc : TypeId × Value → H) :
    ReturnsInHanded {} Try.checked os 3 .any (Rows.natTellsSpec.pre6 enc Try.prog Try.f3 Rows.natTellsRow.domain false) (Rows.natTellsSpec.post enc Try.prog Try.f3 false true false false) := by
  refine returnsInHanded_of_change (C := Try.checked) own started (by kernel_rfl) Try.func3
    (ChangeSpec.witness6 (enc := enc) (C := Try.checked) false ⟨#[], #[.slice none 0 0, .slice none 0 0, .int .i64 0, .slice none 0 0, .int .i64 0], []⟩ 8 (by kernel_rfl) (by kernel_rfl) (by kernel_rfl) (by kernel_rfl)) ?_
  intro W base args ds gs before hval0 hW _ _
  have hval : ∀ (j : Nat) t v, Try.f3.params[j]? = some t → args[j]? = some v → Value.okWide Try.prog W .any base t v := hval0
  have hW' := hW
  obtain ⟨p, q, hA0, hV, rfl, _, _⟩ := hW
  have hA : DataW.TrodAll enc Try.prog W 0 (fun _ => true) true Try.f3.params.toList args.toList ds p := hA0
  rw [Try.params3] at hA hval
  obtain ⟨args⟩ := args
  obtain ⟨v0, vs, d0, ds0, p0, q0, hargs, rfl, rfl, h0, hA⟩ := trodAll_cons hA
  obtain ⟨v1, vs1, d1, ds1, p1, q1, rfl, rfl, rfl, h1, hA⟩ := trodAll_cons hA
  obtain ⟨v2, vs2, d2, ds2, p2, q2, rfl, rfl, rfl, h2, hA⟩ := trodAll_cons hA
  obtain ⟨v3, vs3, d3, ds3, p3, q3, rfl, rfl, rfl, h3, hA⟩ := trodAll_cons hA
  obtain ⟨v4, vs4, d4, ds4, p4, q4, rfl, rfl, rfl, h4, hA⟩ := trodAll_cons hA
  obtain ⟨rfl, rfl, rfl⟩ := trodAll_nil hA
  have hargs' : args = [v0, v1, v2, v3, v4] := hargs
  subst hargs'
  obtain ⟨rfl, rfl⟩ := trodVars_none hV
  obtain ⟨xs, sx, wx⟩ := open_words (hval 0 _ v0 rfl rfl) h0
  obtain ⟨ys, sy, wy⟩ := open_words (hval 1 _ v1 rfl rfl) h1
  obtain ⟨i, rfl, rfl, rfl, wi⟩ := open_int Try.underlying3 (hval 2 _ v2 rfl rfl) h2
  obtain ⟨bs, sb, wb⟩ := open_bytes (hval 3 _ v3 rfl rfl) h3
  obtain ⟨n, rfl, rfl, rfl, wn⟩ := open_int Try.underlying3 (hval 4 _ v4 rfl rfl) h4
  clear hA0 hval0 hA
  simp only [List.append_nil, List.nil_append] at hW'
  have hlt : ∀ x ∈ p0 ++ (p1 ++ p3), x.block < W.heap.size := fun x hx => by simpa using hW'.lt x hx
  have hl0 : ∀ x ∈ p0, x.block < W.heap.size := fun x hx => hlt x (by simp [hx])
  have hl1 : ∀ x ∈ p1, x.block < W.heap.size := fun x hx => hlt x (by simp [hx])
  have hl3 : ∀ x ∈ p3, x.block < W.heap.size := fun x hx => hlt x (by simp [hx])
  refine (NatTells_any W sx sy sb wx wy wb i n (wf_i64 i wi) (wf_i64 n wn)).mono fun e W' ⟨he, hb⟩ => ?_
  subst he
  refine ⟨_, rfl, _, _, _, [], p0 ++ (p1 ++ ([] ++ (p3 ++ ([] ++ [])))), [], hW', ?_, ?_, rfl, hb.frame _, fun h => by cases h⟩
  · exact trodAll_mk1 (shut_bool Try.underlying4 true)
  · exact trodAll_push (kept (by kernel_rfl) (of_decide_eq_true (by kernel_rfl)) h0 hl0 hb) (trodAll_push (kept (by kernel_rfl) (of_decide_eq_true (by kernel_rfl)) h1 hl1 hb) (trodAll_push (shut_int Try.underlying3 wi) (trodAll_push (kept (by kernel_rfl) (of_decide_eq_true (by kernel_rfl)) h3 hl3 hb) (trodAll_push (shut_int Try.underlying3 wn) trodAll_mk0))))

theorem tells_holds : Rows.NatTellsSaid :=
  OpenClaim.holds_of_wide 3 Try.f3 rfl rfl rfl rfl rfl rfl rfl ⟨rfl, rfl, rfl, rfl, rfl⟩ rfl rfl rfl rfl rfl (by kernel_rfl) Try.func3 (by kernel_rfl)
    (of_decide_eq_true (by kernel_rfl)) (by unfold Func.isWrapper; first | (rw [if_pos (by decide +kernel)]; kernel_rfl) | (rw [if_neg (by decide +kernel)]; exact ⟨rfl, rfl⟩))
    (fun os started H enc _ => tells_lifted os started H enc)
end Go.Proofs.Ytocmmabpebbdaaa
