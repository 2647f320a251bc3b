/- NatTells: the whole of it. -/
import Derived.Test.YtocmmabpebbdaaaTellF
namespace Go.Proofs.Ytocmmabpebbdaaa
open Go.RowKit

set_option maxRecDepth 100000 in
set_option maxHeartbeats 4000000 in
theorem P4 {w W : World} {xs ys bs : List Nat} {n1 n2 n3 c1 c2 c3 : Nat} {a1 a2 a3 : Option Addr} {i n : Int} {x y : Value} {lg : Bool} {u5 u6 u7 u8 u9 u10 u14 u15 u16 u17 u18 u19 u20 u21 u22 u23 u24 u25 u26 u27 u28 u29 u30 u31 u32 u33 u34 u35 u36 u37 u38 u39 u40 u41 u42 u43 u44 u45 u46 u47 u48 u49 u50 u51 u52 u53 u54 u55 u56 u57 u58 u59 u60 u61 u62 u63 u64 u65 u66 u67 u68 u69 u70 u71 u72 u73 u74 u75 u76 u77 u78 u79 u80 u81 u82 u83 u84 u85 u86 u87 u88 u89 u90 u91 u92 u93 u94 u95 u96 u97 u98 u99 u100 u101 u102 u103 u104 u105 u106 u107 u108 u109 u110 u111 u112 u113 u114 u115 u116 u117 u118 u119 u120 u121 u122 u123 u124 u125 u126 u127 u128 u129 u130 u131 u132 u133 u134 u135 u136 u137 u138 u139 u140 u141 u142 u143 u144 u145 u146 u147 u148 u149 u150 u151 u152 u153 u154 u155 u156 u157 u158 u159 u160 u161 u162 u163 u164 u165 u166 u167 u168 u169 u170 u171 u172 u173 u174 u175 u176 u177 u178 u179 u180 u181 u182 u183 u184 u185 u186 u187 u188 u189 u190 u191 u192 u193 u194 u195 u196 u197 u198 u199 u200 u201 u202 u203 u204 u205 u206 u207 u208 u209 u210 u211 u212 u213 u214 u215 u216 u217 u218 u219 u220 u221 u222 u223 u224 u225 u226 u227 u228 u229 u230 u231 u232 u233 u234 u235 u236 u237 u238 u239 u240 u241 u242 u243 u244 u245 u246 u247 u248 u249 u250 u251 u252 u253 u254 u255 u256 u257 u258 u259 u260 u261 u262 u263 u264 u265 u266 u267 u268 u269 u270 u271 u272 u273 u274 u275 u276 u277 u278 u279 u280 u281 u282 u283 u284 u285 u286 u287 u288 u289 u290 u291 u292 u293 u294 u295 u296 u297 u298 u299 u300 u301 u302 u303 u304 u305 u306 u307 u308 u309 u310 u311 u312 u313 u314 u315 u316 u317 : Value}
    (F : TF xs ys bs n1 n2 n3 i n) (hlg : lg = decide (80 < xs.length ∨ 80 < ys.length)) (hE : StK w W (L5 (.slice a1 n1 c1) (.slice a2 n2 c2) (.slice a3 n3 c3) x y xs ys bs)) :
    Code.wp Try.prog (restN 4 tellsBody) (QT w) ⟨#[.slice a1 n1 c1, .slice a2 n2 c2, .int .i64 i, .slice a3 n3 c3, .int .i64 n, u5, u6, u7, u8, u9, u10, x, y, .bool lg, u14, u15, u16, u17, u18, u19, u20, u21, u22, u23, u24, u25, u26, u27, u28, u29, u30, u31, u32, u33, u34, u35, u36, u37, u38, u39, u40, u41, u42, u43, u44, u45, u46, u47, u48, u49, u50, u51, u52, u53, u54, u55, u56, u57, u58, u59, u60, u61, u62, u63, u64, u65, u66, u67, u68, u69, u70, u71, u72, u73, u74, u75, u76, u77, u78, u79, u80, u81, u82, u83, u84, u85, u86, u87, u88, u89, u90, u91, u92, u93, u94, u95, u96, u97, u98, u99, u100, u101, u102, u103, u104, u105, u106, u107, u108, u109, u110, u111, u112, u113, u114, u115, u116, u117, u118, u119, u120, u121, u122, u123, u124, u125, u126, u127, u128, u129, u130, u131, u132, u133, u134, u135, u136, u137, u138, u139, u140, u141, u142, u143, u144, u145, u146, u147, u148, u149, u150, u151, u152, u153, u154, u155, u156, u157, u158, u159, u160, u161, u162, u163, u164, u165, u166, u167, u168, u169, u170, u171, u172, u173, u174, u175, u176, u177, u178, u179, u180, u181, u182, u183, u184, u185, u186, u187, u188, u189, u190, u191, u192, u193, u194, u195, u196, u197, u198, u199, u200, u201, u202, u203, u204, u205, u206, u207, u208, u209, u210, u211, u212, u213, u214, u215, u216, u217, u218, u219, u220, u221, u222, u223, u224, u225, u226, u227, u228, u229, u230, u231, u232, u233, u234, u235, u236, u237, u238, u239, u240, u241, u242, u243, u244, u245, u246, u247, u248, u249, u250, u251, u252, u253, u254, u255, u256, u257, u258, u259, u260, u261, u262, u263, u264, u265, u266, u267, u268, u269, u270, u271, u272, u273, u274, u275, u276, u277, u278, u279, u280, u281, u282, u283, u284, u285, u286, u287, u288, u289, u290, u291, u292, u293, u294, u295, u296, u297, u298, u299, u300, u301, u302, u303, u304, u305, u306, u307, u308, u309, u310, u311, u312, u313, u314, u315, u316, u317], []⟩ W := by
  obtain ⟨ea, es, ed, La, Ls, Lm, Lq, Lr, T⟩ : ∃ ea es ed La Ls Lm Lq Lr, TL xs ys lg ea es ed La Ls Lm Lq Lr := ⟨_, _, _, _, _, _, _, _, hlg, rfl, rfl, rfl, rfl, rfl, rfl, rfl, rfl⟩
  clear hlg
  conv => arg 2; whnf
  refine wp_seq_m (y' := restN 5 tellsBody) rfl ?_
  intro J hJ
  go_wp2_with fail
  go_at_call 12
  refine (Add_k hE 0 1 rfl rfl F.x1 F.x2).mono ?_
  rw [T.ha, T.La]
  clear hE
  rintro e W ⟨s, rfl, hE⟩
  go_wp2_with fail
  refine Met.intro ?_
  conv => arg 2; whnf
  refine wp_seq_m (y' := restN 6 tellsBody) rfl ?_
  intro J hJ
  go_wp2_with fail
  go_at_call 13
  refine (Sub_k hE 0 1 rfl rfl F.x1 F.x2).mono ?_
  rw [T.hs, T.Ls]
  clear hE
  rintro e W ⟨d, rfl, hE⟩
  go_wp2_with fail
  refine Met.intro ?_
  conv => arg 2; whnf
  refine wp_seq_m (y' := restN 7 tellsBody) rfl ?_
  intro J hJ
  go_wp2_with fail
  go_at_call 14
  refine (Mul_k hE 0 1 rfl rfl F.x1 F.x2).mono ?_
  rw [T.ha, T.Lm]
  clear hE
  rintro e W ⟨p, rfl, hE⟩
  go_wp2_with fail
  refine Met.intro ?_
  conv => arg 2; whnf
  refine wp_seq_m (y' := restN 8 tellsBody) rfl ?_
  intro J hJ
  go_wp2_with fail
  go_at_call 15
  refine (DivMod_k hE 0 1 rfl rfl F.x1 F.x2).mono ?_
  rw [T.hd, T.Lq, T.Lr]
  clear hE
  rintro e W ⟨q, r, rfl, hE⟩
  go_wp2_with fail
  refine Met.intro ?_
  simp only [L5, List.cons_append, List.nil_append] at hE
  exact P8 F T hE

set_option maxRecDepth 100000 in
set_option maxHeartbeats 4000000 in
theorem P3 {w W : World} {xs ys bs : List Nat} {n1 n2 n3 c1 c2 c3 : Nat} {a1 a2 a3 : Option Addr} {i n : Int} {x y : Value} {u5 u6 u7 u8 u9 u10 u13 u14 u15 u16 u17 u18 u19 u20 u21 u22 u23 u24 u25 u26 u27 u28 u29 u30 u31 u32 u33 u34 u35 u36 u37 u38 u39 u40 u41 u42 u43 u44 u45 u46 u47 u48 u49 u50 u51 u52 u53 u54 u55 u56 u57 u58 u59 u60 u61 u62 u63 u64 u65 u66 u67 u68 u69 u70 u71 u72 u73 u74 u75 u76 u77 u78 u79 u80 u81 u82 u83 u84 u85 u86 u87 u88 u89 u90 u91 u92 u93 u94 u95 u96 u97 u98 u99 u100 u101 u102 u103 u104 u105 u106 u107 u108 u109 u110 u111 u112 u113 u114 u115 u116 u117 u118 u119 u120 u121 u122 u123 u124 u125 u126 u127 u128 u129 u130 u131 u132 u133 u134 u135 u136 u137 u138 u139 u140 u141 u142 u143 u144 u145 u146 u147 u148 u149 u150 u151 u152 u153 u154 u155 u156 u157 u158 u159 u160 u161 u162 u163 u164 u165 u166 u167 u168 u169 u170 u171 u172 u173 u174 u175 u176 u177 u178 u179 u180 u181 u182 u183 u184 u185 u186 u187 u188 u189 u190 u191 u192 u193 u194 u195 u196 u197 u198 u199 u200 u201 u202 u203 u204 u205 u206 u207 u208 u209 u210 u211 u212 u213 u214 u215 u216 u217 u218 u219 u220 u221 u222 u223 u224 u225 u226 u227 u228 u229 u230 u231 u232 u233 u234 u235 u236 u237 u238 u239 u240 u241 u242 u243 u244 u245 u246 u247 u248 u249 u250 u251 u252 u253 u254 u255 u256 u257 u258 u259 u260 u261 u262 u263 u264 u265 u266 u267 u268 u269 u270 u271 u272 u273 u274 u275 u276 u277 u278 u279 u280 u281 u282 u283 u284 u285 u286 u287 u288 u289 u290 u291 u292 u293 u294 u295 u296 u297 u298 u299 u300 u301 u302 u303 u304 u305 u306 u307 u308 u309 u310 u311 u312 u313 u314 u315 u316 u317 : Value}
    (F : TF xs ys bs n1 n2 n3 i n) (hE : StK w W (L5 (.slice a1 n1 c1) (.slice a2 n2 c2) (.slice a3 n3 c3) x y xs ys bs)) :
    Code.wp Try.prog (restN 3 tellsBody) (QT w) ⟨#[.slice a1 n1 c1, .slice a2 n2 c2, .int .i64 i, .slice a3 n3 c3, .int .i64 n, u5, u6, u7, u8, u9, u10, x, y, u13, u14, u15, u16, u17, u18, u19, u20, u21, u22, u23, u24, u25, u26, u27, u28, u29, u30, u31, u32, u33, u34, u35, u36, u37, u38, u39, u40, u41, u42, u43, u44, u45, u46, u47, u48, u49, u50, u51, u52, u53, u54, u55, u56, u57, u58, u59, u60, u61, u62, u63, u64, u65, u66, u67, u68, u69, u70, u71, u72, u73, u74, u75, u76, u77, u78, u79, u80, u81, u82, u83, u84, u85, u86, u87, u88, u89, u90, u91, u92, u93, u94, u95, u96, u97, u98, u99, u100, u101, u102, u103, u104, u105, u106, u107, u108, u109, u110, u111, u112, u113, u114, u115, u116, u117, u118, u119, u120, u121, u122, u123, u124, u125, u126, u127, u128, u129, u130, u131, u132, u133, u134, u135, u136, u137, u138, u139, u140, u141, u142, u143, u144, u145, u146, u147, u148, u149, u150, u151, u152, u153, u154, u155, u156, u157, u158, u159, u160, u161, u162, u163, u164, u165, u166, u167, u168, u169, u170, u171, u172, u173, u174, u175, u176, u177, u178, u179, u180, u181, u182, u183, u184, u185, u186, u187, u188, u189, u190, u191, u192, u193, u194, u195, u196, u197, u198, u199, u200, u201, u202, u203, u204, u205, u206, u207, u208, u209, u210, u211, u212, u213, u214, u215, u216, u217, u218, u219, u220, u221, u222, u223, u224, u225, u226, u227, u228, u229, u230, u231, u232, u233, u234, u235, u236, u237, u238, u239, u240, u241, u242, u243, u244, u245, u246, u247, u248, u249, u250, u251, u252, u253, u254, u255, u256, u257, u258, u259, u260, u261, u262, u263, u264, u265, u266, u267, u268, u269, u270, u271, u272, u273, u274, u275, u276, u277, u278, u279, u280, u281, u282, u283, u284, u285, u286, u287, u288, u289, u290, u291, u292, u293, u294, u295, u296, u297, u298, u299, u300, u301, u302, u303, u304, u305, u306, u307, u308, u309, u310, u311, u312, u313, u314, u315, u316, u317], []⟩ W := by
  conv => arg 2; whnf
  refine wp_seq_m (y' := restN 4 tellsBody) rfl ?_
  intro J hJ
  by_cases ha : 80 < xs.length
  · have hla := Long_k hE 0 rfl (decide_eq_true ha)
    have HA := Lib.hid ha
    clear ha
    go_wp2_with (go_at_call 11; refine hla.mono ?_; rintro e w' ⟨rfl, hw⟩; obtain rfl := hw)
    refine Met.intro ?_
    exact P4 F (decide_eq_true (.inl HA.out)).symm hE
  · have hla := Long_k hE 0 rfl (decide_eq_false ha)
    have HA := Lib.hid ha
    clear ha
    by_cases hb : 80 < ys.length
    · have hlb := Long_k hE 1 rfl (decide_eq_true hb)
      have HB := Lib.hid hb
      clear hb
      go_wp2_with fail
      go_at_call 11
      refine hla.mono ?_
      rintro e w' ⟨rfl, hw⟩
      obtain rfl := hw
      go_wp2_with fail
      go_at_call 11
      refine hlb.mono ?_
      rintro e w' ⟨rfl, hw⟩
      obtain rfl := hw
      go_wp2_with fail
      refine Met.intro ?_
      exact P4 F (decide_eq_true (.inr HB.out)).symm hE
    · have hlb := Long_k hE 1 rfl (decide_eq_false hb)
      have HB := Lib.hid hb
      clear hb
      go_wp2_with fail
      go_at_call 11
      refine hla.mono ?_
      rintro e w' ⟨rfl, hw⟩
      obtain rfl := hw
      go_wp2_with fail
      go_at_call 11
      refine hlb.mono ?_
      rintro e w' ⟨rfl, hw⟩
      obtain rfl := hw
      go_wp2_with fail
      refine Met.intro ?_
      exact P4 F (decide_eq_false (fun h => h.elim HA.out HB.out)).symm hE

set_option maxRecDepth 100000 in
set_option maxHeartbeats 4000000 in
theorem Tells_main (w : World) {v1 v2 v3 : Value} {xs ys bs : List Nat} (h1 : Sl w v1 xs) (h2 : Sl w v2 ys) (h3 : SlB w v3 bs) (x1 : Wf xs) (x2 : Wf ys) (x3 : ∀ x ∈ bs, x < 256)
    (i n : Int) (hi : -9223372036854775808 ≤ i ∧ i < 9223372036854775808) (hn : -9223372036854775808 ≤ n ∧ n ≤ 700) (l1 : xs.length ≤ 100) (l2 : ys.length ≤ 100) (l3 : bs.length ≤ 700) :
    Calls Try.prog 3 #[v1, v2, .int .i64 i, v3, .int .i64 n] w fun e w' => e = .returned (.bool true) ∧ Below w.heap.size w w' := by
  obtain ⟨a1, c1, rfl⟩ := shut h1
  obtain ⟨a2, c2, rfl⟩ := shut h2
  obtain ⟨a3, c3, rfl⟩ := shut h3
  have hE : StK w w [⟨.u64, _, xs⟩, ⟨.u64, _, ys⟩, ⟨.u8, _, bs⟩] := (((StK.nil w).add h1).add h2).add h3
  have hb0 := (Below.refl w.heap.size w).alloc (Nat.le_refl _) (.cells #[.slice a1 xs.length c1, .slice a2 ys.length c2] 22)
  have hgr := fun (c : Nat) => great2_any (w.alloc (.cells #[.slice a1 xs.length c1, .slice a2 ys.length c2] 22)) (h1.below hb0) (h2.below hb0) (b := w.heap.size) (off := 0) (cap := c) (cellNew rfl rfl) (cellNew rfl rfl)
  rw [decide_eq_false (by omega : ¬ (100 < xs.length ∨ 100 < ys.length))] at hgr
  replace hE := hE.go hb0
  obtain ⟨n1, hn1⟩ : ∃ n1, n1 = xs.length := ⟨_, rfl⟩
  obtain ⟨n2, hn2⟩ : ∃ n2, n2 = ys.length := ⟨_, rfl⟩
  obtain ⟨n3, hn3⟩ : ∃ n3, n3 = bs.length := ⟨_, rfl⟩
  have g3 : ¬ (700 : Int) < n3 := by omega
  have gn : ¬ (700 : Int) < n := by omega
  have F : TF xs ys bs n1 n2 n3 i n := ⟨hn1, hn2, hn3, hi, hn, x1, x2, x3, l1, l2, l3⟩
  rw [← hn1, ← hn2] at hgr hE
  rw [← hn3] at hE
  rw [← hn1, ← hn2, ← hn3]
  have HGr := Lib.hid hgr
  clear hgr hn1 hn2 hn3 hi hn x1 x2 x3 l1 l2 l3 h1 h2 h3 hb0
  go_enter Try.func3, Try.ntmps3
  refine wp_seq_m (y' := restN 1 tellsBody) rfl ?_
  intro J hJ
  go_wp2_with fail
  refine Met.intro ?_
  conv => arg 2; whnf
  refine wp_seq_m (y' := restN 2 tellsBody) rfl ?_
  intro J hJ
  go_wp2_with fail
  go_at_call 8
  refine (HGr.out _).mono ?_
  rintro e w' ⟨rfl, hw⟩
  obtain rfl := hw
  clear HGr
  go_wp2_with fail
  clear g3 gn
  refine Met.intro ?_
  conv => arg 2; whnf
  refine wp_seq_m (y' := restN 3 tellsBody) rfl ?_
  intro J hJ
  go_wp2_with fail
  go_at_call 10
  refine (Digits_k hE 0 rfl F.x1 (by have := F.l1; omega)).mono ?_
  clear hE
  rintro e W ⟨x, rfl, hE⟩
  go_wp2_with fail
  go_at_call 10
  refine (Digits_k hE 1 rfl F.x2 (by have := F.l2; omega)).mono ?_
  clear hE
  rintro e W ⟨y, rfl, hE⟩
  go_wp2_with fail
  refine Met.intro ?_
  simp only [List.cons_append, List.nil_append] at hE
  exact P3 F hE
end Go.Proofs.Ytocmmabpebbdaaa
