/- NatTells: the statements from the comparison on. -/
import Derived.Test.YtocmmabpebbdaaaTellE
namespace Go.Proofs.Ytocmmabpebbdaaa
open Go.RowKit

set_option maxRecDepth 100000 in
set_option maxHeartbeats 4000000 in
theorem P12 {w W : World} {xs ys bs : List Nat} {n1 n2 n3 c1 c2 c3 : Nat} {a1 a2 a3 : Option Addr} {i n : Int} {x y s d p q r : Value} {lg : Bool} {ea es ed : Int} {La Ls Lm Lq Lr : List Nat} {u5 u6 u7 u8 u9 u10 u23 u24 u25 u26 u27 u28 u29 u30 u31 u32 u33 u34 u35 u36 u37 u38 u39 u40 u41 u42 u43 u44 u45 u46 u47 u48 u49 u50 u51 u52 u53 u54 u55 u56 u57 u58 u59 u60 u61 u62 u63 u64 u65 u66 u67 u68 u69 u70 u71 u72 u73 u74 u75 u76 u77 u78 u79 u80 u81 u82 u83 u84 u85 u86 u87 u88 u89 u90 u91 u92 u93 u94 u95 u96 u97 u98 u99 u100 u101 u102 u103 u104 u105 u106 u107 u108 u109 u110 u111 u112 u113 u114 u115 u116 u117 u118 u119 u120 u121 u122 u123 u124 u125 u126 u127 u128 u129 u130 u131 u132 u133 u134 u135 u136 u137 u138 u139 u140 u141 u142 u143 u144 u145 u146 u147 u148 u149 u150 u151 u152 u153 u154 u155 u156 u157 u158 u159 u160 u161 u162 u163 u164 u165 u166 u167 u168 u169 u170 u171 u172 u173 u174 u175 u176 u177 u178 u179 u180 u181 u182 u183 u184 u185 u186 u187 u188 u189 u190 u191 u192 u193 u194 u195 u196 u197 u198 u199 u200 u201 u202 u203 u204 u205 u206 u207 u208 u209 u210 u211 u212 u213 u214 u215 u216 u217 u218 u219 u220 u221 u222 u223 u224 u225 u226 u227 u228 u229 u230 u231 u232 u233 u234 u235 u236 u237 u238 u239 u240 u241 u242 u243 u244 u245 u246 u247 u248 u249 u250 u251 u252 u253 u254 u255 u256 u257 u258 u259 u260 u261 u262 u263 u264 u265 u266 u267 u268 u269 u270 u271 u272 u273 u274 u275 u276 u277 u278 u279 u280 u281 u282 u283 u284 u285 u286 u287 u288 u289 u290 u291 u292 u293 u294 u295 u296 u297 u298 u299 u300 u301 u302 u303 u304 u305 u306 u307 u308 u309 u310 u311 u312 u313 u314 u315 u316 u317 : Value}
    (F : TF xs ys bs n1 n2 n3 i n) (T : TL xs ys lg ea es ed La Ls Lm Lq Lr)
    (hE : StK w W (L10 (.slice a1 n1 c1) (.slice a2 n2 c2) (.slice a3 n3 c3) x y s d p q r xs ys bs La Ls Lm Lq Lr)) :
    Code.wp Try.prog (restN 12 tellsBody) (QT w) ⟨#[.slice a1 n1 c1, .slice a2 n2 c2, .int .i64 i, .slice a3 n3 c3, .int .i64 n, u5, u6, u7, u8, u9, u10, x, y, .bool lg, s, .int .i64 ea, d, .int .i64 es, p, .int .i64 ea, q, r, .int .i64 ed, u23, u24, u25, u26, u27, u28, u29, u30, u31, u32, u33, u34, u35, u36, u37, u38, u39, u40, u41, u42, u43, u44, u45, u46, u47, u48, u49, u50, u51, u52, u53, u54, u55, u56, u57, u58, u59, u60, u61, u62, u63, u64, u65, u66, u67, u68, u69, u70, u71, u72, u73, u74, u75, u76, u77, u78, u79, u80, u81, u82, u83, u84, u85, u86, u87, u88, u89, u90, u91, u92, u93, u94, u95, u96, u97, u98, u99, u100, u101, u102, u103, u104, u105, u106, u107, u108, u109, u110, u111, u112, u113, u114, u115, u116, u117, u118, u119, u120, u121, u122, u123, u124, u125, u126, u127, u128, u129, u130, u131, u132, u133, u134, u135, u136, u137, u138, u139, u140, u141, u142, u143, u144, u145, u146, u147, u148, u149, u150, u151, u152, u153, u154, u155, u156, u157, u158, u159, u160, u161, u162, u163, u164, u165, u166, u167, u168, u169, u170, u171, u172, u173, u174, u175, u176, u177, u178, u179, u180, u181, u182, u183, u184, u185, u186, u187, u188, u189, u190, u191, u192, u193, u194, u195, u196, u197, u198, u199, u200, u201, u202, u203, u204, u205, u206, u207, u208, u209, u210, u211, u212, u213, u214, u215, u216, u217, u218, u219, u220, u221, u222, u223, u224, u225, u226, u227, u228, u229, u230, u231, u232, u233, u234, u235, u236, u237, u238, u239, u240, u241, u242, u243, u244, u245, u246, u247, u248, u249, u250, u251, u252, u253, u254, u255, u256, u257, u258, u259, u260, u261, u262, u263, u264, u265, u266, u267, u268, u269, u270, u271, u272, u273, u274, u275, u276, u277, u278, u279, u280, u281, u282, u283, u284, u285, u286, u287, u288, u289, u290, u291, u292, u293, u294, u295, u296, u297, u298, u299, u300, u301, u302, u303, u304, u305, u306, u307, u308, u309, u310, u311, u312, u313, u314, u315, u316, u317], []⟩ W := by
  by_cases h : 80 < xs.length ∨ 80 < ys.length
  · have e1 := T.hl
    have e2 := T.ha
    have e3 := T.hs
    have e4 := T.hd
    have e5 := T.La
    have e6 := T.Ls
    have e7 := T.Lm
    have e8 := T.Lq
    have e9 := T.Lr
    rw [if_pos h] at e2 e3 e4 e5 e6 e7 e8 e9
    rw [decide_eq_true h] at e1
    subst e1 e2 e3 e4 e5 e6 e7 e8 e9
    obtain ⟨_, _, rfl⟩ := shut (hE.get (i := 5) rfl)
    obtain ⟨_, _, rfl⟩ := shut (hE.get (i := 6) rfl)
    obtain ⟨_, _, rfl⟩ := shut (hE.get (i := 7) rfl)
    obtain ⟨_, _, rfl⟩ := shut (hE.get (i := 8) rfl)
    obtain ⟨_, _, rfl⟩ := shut (hE.get (i := 9) rfl)
    exact P12_long F hE.cut
  · have e1 := T.hl
    have e2 := T.ha
    have e3 := T.hs
    have e4 := T.hd
    have e5 := T.La
    have e6 := T.Ls
    have e7 := T.Lm
    have e8 := T.Lq
    have e9 := T.Lr
    rw [if_neg h] at e2 e3 e4 e5 e6 e7 e8 e9
    rw [decide_eq_false h] at e1
    subst e1 e2 e5 e7
    exact P12_short F e3.symm e6.symm e4.symm e8.symm e9.symm hE

set_option maxRecDepth 100000 in
set_option maxHeartbeats 4000000 in
theorem P11 {w W : World} {xs ys bs : List Nat} {n1 n2 n3 c1 c2 c3 : Nat} {a1 a2 a3 : Option Addr} {i n : Int} {x y s d p q r : Value} {lg : Bool} {ea es ed : Int} {La Ls Lm Lq Lr : List Nat} {bt : Nat} {u5 u6 u7 u8 u9 u10 u24 u25 u26 u27 u28 u29 u30 u31 u32 u33 u34 u35 u36 u37 u38 u39 u40 u41 u42 u43 u44 u45 u46 u47 u48 u49 u50 u51 u52 u53 u54 u55 u56 u57 u58 u59 u60 u61 u62 u63 u64 u65 u66 u67 u68 u69 u70 u71 u72 u73 u74 u75 u76 u77 u78 u79 u80 u81 u82 u83 u84 u85 u86 u87 u88 u89 u90 u91 u92 u93 u94 u95 u96 u97 u98 u99 u100 u101 u102 u103 u104 u105 u106 u107 u108 u109 u110 u111 u112 u113 u114 u115 u116 u117 u118 u119 u120 u121 u122 u123 u124 u125 u126 u127 u128 u129 u130 u131 u132 u133 u134 u135 u136 u137 u138 u139 u140 u141 u142 u143 u144 u145 u146 u147 u148 u149 u150 u151 u152 u153 u154 u155 u156 u157 u158 u159 u160 u161 u162 u163 u164 u165 u166 u167 u168 u169 u170 u171 u172 u173 u174 u175 u176 u177 u178 u179 u180 u181 u182 u183 u184 u185 u186 u187 u188 u189 u190 u191 u192 u193 u194 u195 u196 u197 u198 u199 u200 u201 u202 u203 u204 u205 u206 u207 u208 u209 u210 u211 u212 u213 u214 u215 u216 u217 u218 u219 u220 u221 u222 u223 u224 u225 u226 u227 u228 u229 u230 u231 u232 u233 u234 u235 u236 u237 u238 u239 u240 u241 u242 u243 u244 u245 u246 u247 u248 u249 u250 u251 u252 u253 u254 u255 u256 u257 u258 u259 u260 u261 u262 u263 u264 u265 u266 u267 u268 u269 u270 u271 u272 u273 u274 u275 u276 u277 u278 u279 u280 u281 u282 u283 u284 u285 u286 u287 u288 u289 u290 u291 u292 u293 u294 u295 u296 u297 u298 u299 u300 u301 u302 u303 u304 u305 u306 u307 u308 u309 u310 u311 u312 u313 u314 u315 u316 u317 : Value}
    (F : TF xs ys bs n1 n2 n3 i n) (T : TL xs ys lg ea es ed La Ls Lm Lq Lr)
    (hb : (if i < 0 then 0 else val xs / 2 ^ i.toNat % 2 : Nat) = bt) (hE : StK w W (L10 (.slice a1 n1 c1) (.slice a2 n2 c2) (.slice a3 n3 c3) x y s d p q r xs ys bs La Ls Lm Lq Lr)) :
    Code.wp Try.prog (restN 11 tellsBody) (QT w) ⟨#[.slice a1 n1 c1, .slice a2 n2 c2, .int .i64 i, .slice a3 n3 c3, .int .i64 n, u5, u6, u7, u8, u9, u10, x, y, .bool lg, s, .int .i64 ea, d, .int .i64 es, p, .int .i64 ea, q, r, .int .i64 ed, .int .u64 (bt : Int), u24, u25, u26, u27, u28, u29, u30, u31, u32, u33, u34, u35, u36, u37, u38, u39, u40, u41, u42, u43, u44, u45, u46, u47, u48, u49, u50, u51, u52, u53, u54, u55, u56, u57, u58, u59, u60, u61, u62, u63, u64, u65, u66, u67, u68, u69, u70, u71, u72, u73, u74, u75, u76, u77, u78, u79, u80, u81, u82, u83, u84, u85, u86, u87, u88, u89, u90, u91, u92, u93, u94, u95, u96, u97, u98, u99, u100, u101, u102, u103, u104, u105, u106, u107, u108, u109, u110, u111, u112, u113, u114, u115, u116, u117, u118, u119, u120, u121, u122, u123, u124, u125, u126, u127, u128, u129, u130, u131, u132, u133, u134, u135, u136, u137, u138, u139, u140, u141, u142, u143, u144, u145, u146, u147, u148, u149, u150, u151, u152, u153, u154, u155, u156, u157, u158, u159, u160, u161, u162, u163, u164, u165, u166, u167, u168, u169, u170, u171, u172, u173, u174, u175, u176, u177, u178, u179, u180, u181, u182, u183, u184, u185, u186, u187, u188, u189, u190, u191, u192, u193, u194, u195, u196, u197, u198, u199, u200, u201, u202, u203, u204, u205, u206, u207, u208, u209, u210, u211, u212, u213, u214, u215, u216, u217, u218, u219, u220, u221, u222, u223, u224, u225, u226, u227, u228, u229, u230, u231, u232, u233, u234, u235, u236, u237, u238, u239, u240, u241, u242, u243, u244, u245, u246, u247, u248, u249, u250, u251, u252, u253, u254, u255, u256, u257, u258, u259, u260, u261, u262, u263, u264, u265, u266, u267, u268, u269, u270, u271, u272, u273, u274, u275, u276, u277, u278, u279, u280, u281, u282, u283, u284, u285, u286, u287, u288, u289, u290, u291, u292, u293, u294, u295, u296, u297, u298, u299, u300, u301, u302, u303, u304, u305, u306, u307, u308, u309, u310, u311, u312, u313, u314, u315, u316, u317], []⟩ W := by
  conv => arg 2; whnf
  refine wp_seq_m (y' := restN 12 tellsBody) rfl ?_
  intro J hJ
  obtain ⟨bt', hbt⟩ : ∃ b, (if i < 0 then 0 else val xs / 2 ^ i.toNat % 2 : Nat) = b := ⟨_, rfl⟩
  have hB := Bit_k hE 0 rfl F.x1 i F.hi.2
  rw [hbt] at hB
  rw [← hb, hbt]
  have HB := Lib.hid hB
  clear hB hb hbt
  go_wp2_with fail
  go_at_call 23
  refine HB.out.mono ?_
  rintro e w' ⟨rfl, hw⟩
  obtain rfl := hw
  go_wp2_with fail
  refine Met.intro ?_
  exact P12 F T hE

set_option maxRecDepth 100000 in
set_option maxHeartbeats 4000000 in
theorem P10 {w W : World} {xs ys bs : List Nat} {n1 n2 n3 c1 c2 c3 : Nat} {a1 a2 a3 : Option Addr} {i n : Int} {x y s d p q r : Value} {lg : Bool} {ea es ed : Int} {La Ls Lm Lq Lr : List Nat} {u5 u6 u7 u8 u9 u10 u24 u25 u26 u27 u28 u29 u30 u31 u32 u33 u34 u35 u36 u37 u38 u39 u40 u41 u42 u43 u44 u45 u46 u47 u48 u49 u50 u51 u52 u53 u54 u55 u56 u57 u58 u59 u60 u61 u62 u63 u64 u65 u66 u67 u68 u69 u70 u71 u72 u73 u74 u75 u76 u77 u78 u79 u80 u81 u82 u83 u84 u85 u86 u87 u88 u89 u90 u91 u92 u93 u94 u95 u96 u97 u98 u99 u100 u101 u102 u103 u104 u105 u106 u107 u108 u109 u110 u111 u112 u113 u114 u115 u116 u117 u118 u119 u120 u121 u122 u123 u124 u125 u126 u127 u128 u129 u130 u131 u132 u133 u134 u135 u136 u137 u138 u139 u140 u141 u142 u143 u144 u145 u146 u147 u148 u149 u150 u151 u152 u153 u154 u155 u156 u157 u158 u159 u160 u161 u162 u163 u164 u165 u166 u167 u168 u169 u170 u171 u172 u173 u174 u175 u176 u177 u178 u179 u180 u181 u182 u183 u184 u185 u186 u187 u188 u189 u190 u191 u192 u193 u194 u195 u196 u197 u198 u199 u200 u201 u202 u203 u204 u205 u206 u207 u208 u209 u210 u211 u212 u213 u214 u215 u216 u217 u218 u219 u220 u221 u222 u223 u224 u225 u226 u227 u228 u229 u230 u231 u232 u233 u234 u235 u236 u237 u238 u239 u240 u241 u242 u243 u244 u245 u246 u247 u248 u249 u250 u251 u252 u253 u254 u255 u256 u257 u258 u259 u260 u261 u262 u263 u264 u265 u266 u267 u268 u269 u270 u271 u272 u273 u274 u275 u276 u277 u278 u279 u280 u281 u282 u283 u284 u285 u286 u287 u288 u289 u290 u291 u292 u293 u294 u295 u296 u297 u298 u299 u300 u301 u302 u303 u304 u305 u306 u307 u308 u309 u310 u311 u312 u313 u314 u315 u316 u317 : Value}
    (F : TF xs ys bs n1 n2 n3 i n) (T : TL xs ys lg ea es ed La Ls Lm Lq Lr)
    (hE : StK w W (L10 (.slice a1 n1 c1) (.slice a2 n2 c2) (.slice a3 n3 c3) x y s d p q r xs ys bs La Ls Lm Lq Lr)) :
    Code.wp Try.prog (restN 10 tellsBody) (QT w) ⟨#[.slice a1 n1 c1, .slice a2 n2 c2, .int .i64 i, .slice a3 n3 c3, .int .i64 n, u5, u6, u7, u8, u9, u10, x, y, .bool lg, s, .int .i64 ea, d, .int .i64 es, p, .int .i64 ea, q, r, .int .i64 ed, .int .u64 0, u24, u25, u26, u27, u28, u29, u30, u31, u32, u33, u34, u35, u36, u37, u38, u39, u40, u41, u42, u43, u44, u45, u46, u47, u48, u49, u50, u51, u52, u53, u54, u55, u56, u57, u58, u59, u60, u61, u62, u63, u64, u65, u66, u67, u68, u69, u70, u71, u72, u73, u74, u75, u76, u77, u78, u79, u80, u81, u82, u83, u84, u85, u86, u87, u88, u89, u90, u91, u92, u93, u94, u95, u96, u97, u98, u99, u100, u101, u102, u103, u104, u105, u106, u107, u108, u109, u110, u111, u112, u113, u114, u115, u116, u117, u118, u119, u120, u121, u122, u123, u124, u125, u126, u127, u128, u129, u130, u131, u132, u133, u134, u135, u136, u137, u138, u139, u140, u141, u142, u143, u144, u145, u146, u147, u148, u149, u150, u151, u152, u153, u154, u155, u156, u157, u158, u159, u160, u161, u162, u163, u164, u165, u166, u167, u168, u169, u170, u171, u172, u173, u174, u175, u176, u177, u178, u179, u180, u181, u182, u183, u184, u185, u186, u187, u188, u189, u190, u191, u192, u193, u194, u195, u196, u197, u198, u199, u200, u201, u202, u203, u204, u205, u206, u207, u208, u209, u210, u211, u212, u213, u214, u215, u216, u217, u218, u219, u220, u221, u222, u223, u224, u225, u226, u227, u228, u229, u230, u231, u232, u233, u234, u235, u236, u237, u238, u239, u240, u241, u242, u243, u244, u245, u246, u247, u248, u249, u250, u251, u252, u253, u254, u255, u256, u257, u258, u259, u260, u261, u262, u263, u264, u265, u266, u267, u268, u269, u270, u271, u272, u273, u274, u275, u276, u277, u278, u279, u280, u281, u282, u283, u284, u285, u286, u287, u288, u289, u290, u291, u292, u293, u294, u295, u296, u297, u298, u299, u300, u301, u302, u303, u304, u305, u306, u307, u308, u309, u310, u311, u312, u313, u314, u315, u316, u317], []⟩ W := by
  conv => arg 2; whnf
  refine wp_seq_m (y' := restN 11 tellsBody) rfl ?_
  intro J hJ
  have h100 : (n1 : Int) ≤ 100 := by have := F.e1; have := F.l1; omega
  have hw64 : IntKind.i64.wrap (64 * (n1 : Int)) = 64 * (n1 : Int) := IntWalk.i64_in _ (by omega)
  by_cases hb : 0 ≤ i ∧ i < 64 * (n1 : Int)
  · obtain ⟨k, rfl⟩ := Int.eq_ofNat_of_zero_le hb.1
    have hk : k / 64 < xs.length := by have := F.e1; omega
    have hlt := F.x1.getD (k / 64)
    have hval := bit_word xs F.x1 k
    obtain ⟨a, cap, hae, _, _, _, hr⟩ := hE.get (i := 0) rfl
    rcases hr with hr | ⟨b, off, hab, _, hcl⟩
    · rw [hr] at hk; simp at hk
    have hcell := hcl (k / 64) hk
    have e1 : a1 = a := by cases hae; rfl
    subst e1
    subst hab
    generalize xs.getD (k / 64) 0 = z at *
    have hkn : k / 64 < n1 := by rw [F.e1]; exact hk
    have hand : bits .and .u64 ((z : Int) / 2 ^ (k % 64)) 1 = ((z / 2 ^ (k % 64) % 2 : Nat) : Int) := by
      rw [show (z : Int) / 2 ^ (k % 64) = ((z / 2 ^ (k % 64) : Nat) : Int) by simp, and_one_u64' _ (Nat.lt_of_le_of_lt (Nat.div_le_self _ _) (by rw [W64_eq] at hlt; exact hlt))]
    have hq : ((k : Int)).tdiv 64 = ((k / 64 : Nat) : Int) := by rw [Int.tdiv_eq_ediv_of_nonneg (by omega)]; omega
    have hk0 : (0 : Int) ≤ k := hb.1
    have hk1 : (k : Int) < 64 * (n1 : Int) := hb.2
    generalize z / 2 ^ (k % 64) % 2 = t at *
    have HV := Lib.hid hval
    clear hcl hval hlt hb hk hae
    go_wp2_with fail
    refine Met.intro ?_
    exact P11 F T (by rw [if_neg (by omega), Int.toNat_natCast]; exact HV.out.symm) hE
  · by_cases h0 : 0 ≤ i
    · have h1 : ¬ i < 64 * (n1 : Int) := by omega
      have hz : (if i < 0 then 0 else val xs / 2 ^ i.toNat % 2 : Nat) = 0 := by
        rw [if_neg (by omega)]
        obtain ⟨k, rfl⟩ := Int.eq_ofNat_of_zero_le h0
        rw [Int.toNat_natCast, ← bit_word xs F.x1 k, List.getD_eq_getElem?_getD, List.getElem?_eq_none (by have := F.e1; omega)]
        simp
      have HZ := Lib.hid hz
      clear hz hb
      go_wp2_with fail
      refine Met.intro ?_
      exact P11 F T HZ.out hE
    · have hz : (if i < 0 then 0 else val xs / 2 ^ i.toNat % 2 : Nat) = 0 := by rw [if_pos (by omega)]
      have HZ := Lib.hid hz
      have h1 : i < 0 := by omega
      clear hz hb
      go_wp2_with fail
      refine Met.intro ?_
      exact P11 F T HZ.out hE

set_option maxRecDepth 100000 in
set_option maxHeartbeats 4000000 in
theorem P8 {w W : World} {xs ys bs : List Nat} {n1 n2 n3 c1 c2 c3 : Nat} {a1 a2 a3 : Option Addr} {i n : Int} {x y s d p q r : Value} {lg : Bool} {ea es ed : Int} {La Ls Lm Lq Lr : List Nat} {u5 u6 u7 u8 u9 u10 u23 u24 u25 u26 u27 u28 u29 u30 u31 u32 u33 u34 u35 u36 u37 u38 u39 u40 u41 u42 u43 u44 u45 u46 u47 u48 u49 u50 u51 u52 u53 u54 u55 u56 u57 u58 u59 u60 u61 u62 u63 u64 u65 u66 u67 u68 u69 u70 u71 u72 u73 u74 u75 u76 u77 u78 u79 u80 u81 u82 u83 u84 u85 u86 u87 u88 u89 u90 u91 u92 u93 u94 u95 u96 u97 u98 u99 u100 u101 u102 u103 u104 u105 u106 u107 u108 u109 u110 u111 u112 u113 u114 u115 u116 u117 u118 u119 u120 u121 u122 u123 u124 u125 u126 u127 u128 u129 u130 u131 u132 u133 u134 u135 u136 u137 u138 u139 u140 u141 u142 u143 u144 u145 u146 u147 u148 u149 u150 u151 u152 u153 u154 u155 u156 u157 u158 u159 u160 u161 u162 u163 u164 u165 u166 u167 u168 u169 u170 u171 u172 u173 u174 u175 u176 u177 u178 u179 u180 u181 u182 u183 u184 u185 u186 u187 u188 u189 u190 u191 u192 u193 u194 u195 u196 u197 u198 u199 u200 u201 u202 u203 u204 u205 u206 u207 u208 u209 u210 u211 u212 u213 u214 u215 u216 u217 u218 u219 u220 u221 u222 u223 u224 u225 u226 u227 u228 u229 u230 u231 u232 u233 u234 u235 u236 u237 u238 u239 u240 u241 u242 u243 u244 u245 u246 u247 u248 u249 u250 u251 u252 u253 u254 u255 u256 u257 u258 u259 u260 u261 u262 u263 u264 u265 u266 u267 u268 u269 u270 u271 u272 u273 u274 u275 u276 u277 u278 u279 u280 u281 u282 u283 u284 u285 u286 u287 u288 u289 u290 u291 u292 u293 u294 u295 u296 u297 u298 u299 u300 u301 u302 u303 u304 u305 u306 u307 u308 u309 u310 u311 u312 u313 u314 u315 u316 u317 : Value}
    (F : TF xs ys bs n1 n2 n3 i n) (T : TL xs ys lg ea es ed La Ls Lm Lq Lr)
    (hE : StK w W (L10 (.slice a1 n1 c1) (.slice a2 n2 c2) (.slice a3 n3 c3) x y s d p q r xs ys bs La Ls Lm Lq Lr)) :
    Code.wp Try.prog (restN 8 tellsBody) (QT w) ⟨#[.slice a1 n1 c1, .slice a2 n2 c2, .int .i64 i, .slice a3 n3 c3, .int .i64 n, u5, u6, u7, u8, u9, u10, x, y, .bool lg, s, .int .i64 ea, d, .int .i64 es, p, .int .i64 ea, q, r, .int .i64 ed, u23, u24, u25, u26, u27, u28, u29, u30, u31, u32, u33, u34, u35, u36, u37, u38, u39, u40, u41, u42, u43, u44, u45, u46, u47, u48, u49, u50, u51, u52, u53, u54, u55, u56, u57, u58, u59, u60, u61, u62, u63, u64, u65, u66, u67, u68, u69, u70, u71, u72, u73, u74, u75, u76, u77, u78, u79, u80, u81, u82, u83, u84, u85, u86, u87, u88, u89, u90, u91, u92, u93, u94, u95, u96, u97, u98, u99, u100, u101, u102, u103, u104, u105, u106, u107, u108, u109, u110, u111, u112, u113, u114, u115, u116, u117, u118, u119, u120, u121, u122, u123, u124, u125, u126, u127, u128, u129, u130, u131, u132, u133, u134, u135, u136, u137, u138, u139, u140, u141, u142, u143, u144, u145, u146, u147, u148, u149, u150, u151, u152, u153, u154, u155, u156, u157, u158, u159, u160, u161, u162, u163, u164, u165, u166, u167, u168, u169, u170, u171, u172, u173, u174, u175, u176, u177, u178, u179, u180, u181, u182, u183, u184, u185, u186, u187, u188, u189, u190, u191, u192, u193, u194, u195, u196, u197, u198, u199, u200, u201, u202, u203, u204, u205, u206, u207, u208, u209, u210, u211, u212, u213, u214, u215, u216, u217, u218, u219, u220, u221, u222, u223, u224, u225, u226, u227, u228, u229, u230, u231, u232, u233, u234, u235, u236, u237, u238, u239, u240, u241, u242, u243, u244, u245, u246, u247, u248, u249, u250, u251, u252, u253, u254, u255, u256, u257, u258, u259, u260, u261, u262, u263, u264, u265, u266, u267, u268, u269, u270, u271, u272, u273, u274, u275, u276, u277, u278, u279, u280, u281, u282, u283, u284, u285, u286, u287, u288, u289, u290, u291, u292, u293, u294, u295, u296, u297, u298, u299, u300, u301, u302, u303, u304, u305, u306, u307, u308, u309, u310, u311, u312, u313, u314, u315, u316, u317], []⟩ W := by
  conv => arg 2; whnf
  refine wp_seq_m (y' := restN 9 tellsBody) rfl ?_
  intro J hJ
  obtain ⟨c, hc⟩ : ∃ c, cmp3 (val xs) (val ys) = c := ⟨_, rfl⟩
  obtain ⟨nb, hnb⟩ : ∃ nb, nbits (val xs) = nb := ⟨_, rfl⟩
  have HC := Lib.hid hc
  have HB := Lib.hid hnb
  clear hc hnb
  go_wp2_with fail
  go_at_call 16
  refine (Cmp_k hE 0 1 rfl rfl F.x1 F.x2 HC.out).mono ?_
  clear hE
  rintro e W ⟨rfl, hE⟩
  go_wp2_with fail
  go_at_call 17
  refine (order_k hE 3 4 rfl rfl HC.out).mono ?_
  clear hE
  rintro e W ⟨rfl, hE⟩
  go_wp2_with fail
  go_at_call 18
  refine (Bits_k hE 0 rfl F.x1 (by have := F.l1; omega) HB.out).mono ?_
  rintro e w' ⟨rfl, hw⟩
  obtain rfl := hw
  go_wp2_with fail
  go_at_call 19
  refine (BitsRef_k hE 3 rfl (Nat.le_trans F.dx (by omega)) HB.out).mono ?_
  rintro e w' ⟨rfl, hw⟩
  obtain rfl := hw
  go_wp2_with fail
  go_at_call 21
  refine (Of_k hE 0 rfl F.x1 (by have := F.l1; omega)).mono ?_
  clear hE
  rintro e W ⟨o, rfl, hE⟩
  go_wp2_with fail
  go_at_call 22
  refine (Words_k hE 3 rfl (Nat.le_trans F.dx (by omega))).mono ?_
  clear hE
  rintro e W ⟨u, rfl, hE⟩
  go_wp2_with fail
  go_at_call 20
  refine (Same_k hE 10 11 rfl rfl rfl).mono ?_
  clear hE
  rintro e W ⟨rfl, hE⟩
  replace hE := hE.cut.cut
  go_wp2_with fail
  refine Met.intro ?_
  conv => arg 2; whnf
  refine wp_seq_m (y' := restN 10 tellsBody) rfl ?_
  intro J hJ
  go_wp2_with fail
  refine Met.intro ?_
  exact P10 F T hE
end Go.Proofs.Ytocmmabpebbdaaa
