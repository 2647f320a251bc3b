/- NatTells: the last statement: bytes. -/
import Derived.Test.YtocmmabpebbdaaaTellB
import Derived.Deep.RegionHeld
namespace Go.Proofs.Ytocmmabpebbdaaa
open Go.RowKit

set_option maxRecDepth 100000 in
set_option maxHeartbeats 4000000 in
theorem P15_long {w W : World} {xs ys bs : List Nat} {n1 n2 n3 c1 c2 c3 : Nat} {a1 a2 a3 : Option Addr} {i n : Int} {x y : Value} {u5 u6 u7 u8 u9 u10 u13 u14 u15 u16 u17 u18 u19 u20 u21 u22 u23 u24 u25 u26 u27 u28 u29 u30 u31 u32 u33 u34 u35 u36 u37 u38 u39 u40 u41 u42 u43 u44 u45 u46 u47 u48 u49 u50 u51 u52 u53 u54 u55 u56 u57 u58 u59 u60 u61 u62 u63 u64 u65 u66 u67 u68 u69 u70 u71 u72 u73 u74 u75 u76 u77 u78 u79 u80 u81 u82 u83 u84 u85 u86 u87 u88 u89 u90 u91 u92 u93 u94 u95 u96 u97 u98 u99 u100 u101 u102 u103 u104 u105 u106 u107 u108 u109 u110 u111 u112 u113 u114 u115 u116 u117 u118 u119 u120 u121 u122 u123 u124 u125 u126 u127 u128 u129 u130 u131 u132 u133 u134 u135 u136 u137 u138 u139 u140 u141 u142 u143 u144 u145 u146 u147 u148 u149 u150 u151 u152 u153 u154 u155 u156 u157 u158 u159 u160 u161 u162 u163 u164 u165 u166 u167 u168 u169 u170 u171 u172 u173 u174 u175 u176 u177 u178 u179 u180 u181 u182 u183 u184 u185 u186 u187 u188 u189 u190 u191 u192 u193 u194 u195 u196 u197 u198 u199 u200 u201 u202 u203 u204 u205 u206 u207 u208 u209 u210 u211 u212 u213 u214 u215 u216 u217 u218 u219 u220 u221 u222 u223 u224 u225 u226 u227 u228 u229 u230 u231 u232 u233 u234 u235 u236 u237 u238 u239 u240 u241 u242 u243 u244 u245 u246 u247 u248 u249 u250 u251 u252 u253 u254 u255 u256 u257 u258 u259 u260 u261 u262 u263 u264 u265 u266 u267 u268 u269 u270 u271 u272 u273 u274 u275 u276 u277 u278 u279 u280 u281 u282 u283 u284 u285 u286 u287 u288 u289 u290 u291 u292 u293 u294 u295 u296 u297 u298 u299 u300 u301 u302 u303 u304 u305 u306 u307 u308 u309 u310 u311 u312 u313 u314 u315 u316 u317 : Value}
    (hE : StK w W (L5 (.slice a1 n1 c1) (.slice a2 n2 c2) (.slice a3 n3 c3) x y xs ys bs))
    (hlong : 80 < xs.length ∨ 640 < n) :
    Code.wp Try.prog (restN 15 tellsBody) (QT w) ⟨#[.slice a1 n1 c1, .slice a2 n2 c2, .int .i64 i, .slice a3 n3 c3, .int .i64 n, u5, u6, u7, u8, u9, u10, x, y, u13, u14, u15, u16, u17, u18, u19, u20, u21, u22, u23, u24, u25, u26, u27, u28, u29, u30, u31, u32, u33, u34, u35, u36, u37, u38, u39, u40, u41, u42, u43, u44, u45, u46, u47, u48, u49, u50, u51, u52, u53, u54, u55, u56, u57, u58, u59, u60, u61, u62, u63, u64, u65, u66, u67, u68, u69, u70, u71, u72, u73, u74, u75, u76, u77, u78, u79, u80, u81, u82, u83, u84, u85, u86, u87, u88, u89, u90, u91, u92, u93, u94, u95, u96, u97, u98, u99, u100, u101, u102, u103, u104, u105, u106, u107, u108, u109, u110, u111, u112, u113, u114, u115, u116, u117, u118, u119, u120, u121, u122, u123, u124, u125, u126, u127, u128, u129, u130, u131, u132, u133, u134, u135, u136, u137, u138, u139, u140, u141, u142, u143, u144, u145, u146, u147, u148, u149, u150, u151, u152, u153, u154, u155, u156, u157, u158, u159, u160, u161, u162, u163, u164, u165, u166, u167, u168, u169, u170, u171, u172, u173, u174, u175, u176, u177, u178, u179, u180, u181, u182, u183, u184, u185, u186, u187, u188, u189, u190, u191, u192, u193, u194, u195, u196, u197, u198, u199, u200, u201, u202, u203, u204, u205, u206, u207, u208, u209, u210, u211, u212, u213, u214, u215, u216, u217, u218, u219, u220, u221, u222, u223, u224, u225, u226, u227, u228, u229, u230, u231, u232, u233, u234, u235, u236, u237, u238, u239, u240, u241, u242, u243, u244, u245, u246, u247, u248, u249, u250, u251, u252, u253, u254, u255, u256, u257, u258, u259, u260, u261, u262, u263, u264, u265, u266, u267, u268, u269, u270, u271, u272, u273, u274, u275, u276, u277, u278, u279, u280, u281, u282, u283, u284, u285, u286, u287, u288, u289, u290, u291, u292, u293, u294, u295, u296, u297, u298, u299, u300, u301, u302, u303, u304, u305, u306, u307, u308, u309, u310, u311, u312, u313, u314, u315, u316, u317], []⟩ W := by
  conv => arg 2; whnf
  have hB := Bytes_long W (hE.get (i := 0) rfl) n hlong
  by_cases h : 80 < xs.length
  · have HB := Lib.hid hB
    have HLo := Lib.hid (decide_eq_true h)
    clear hB h hlong
    go_wp2_with fail
    go_at_call 31
    refine HB.out.mono ?_
    rintro e w' ⟨rfl, hb⟩
    replace hE := hE.go hb
    clear HB hb
    go_wp2_with fail
    go_at_call 11
    refine (Long_k hE 0 rfl HLo.out).mono ?_
    rintro e w' ⟨rfl, hw⟩
    obtain rfl := hw
    go_wp2_with fail
    go_at_call 9
    refine (wakes_k hE).mono ?_
    clear hE
    rintro e W ⟨rfl, hE⟩
    go_wp2_with fail
    go_ret
    exact ⟨rfl, hE.below⟩
  · have hn : 640 < n := by omega
    have HB := Lib.hid hB
    have HLo := Lib.hid (decide_eq_false h)
    clear hB h hlong
    go_wp2_with fail
    go_at_call 31
    refine HB.out.mono ?_
    rintro e w' ⟨rfl, hb⟩
    replace hE := hE.go hb
    clear HB hb
    go_wp2_with fail
    go_at_call 11
    refine (Long_k hE 0 rfl HLo.out).mono ?_
    rintro e w' ⟨rfl, hw⟩
    obtain rfl := hw
    go_wp2_with fail
    go_at_call 9
    refine (wakes_k hE).mono ?_
    clear hE
    rintro e W ⟨rfl, hE⟩
    go_wp2_with fail
    go_ret
    exact ⟨rfl, hE.below⟩

set_option maxRecDepth 100000 in
set_option maxHeartbeats 4000000 in
theorem P15_arg {w W : World} {xs ys bs : List Nat} {n1 n2 n3 c1 c2 c3 : Nat} {a1 a2 a3 : Option Addr} {i n : Int} {x y : Value} {u5 u6 u7 u8 u9 u10 u13 u14 u15 u16 u17 u18 u19 u20 u21 u22 u23 u24 u25 u26 u27 u28 u29 u30 u31 u32 u33 u34 u35 u36 u37 u38 u39 u40 u41 u42 u43 u44 u45 u46 u47 u48 u49 u50 u51 u52 u53 u54 u55 u56 u57 u58 u59 u60 u61 u62 u63 u64 u65 u66 u67 u68 u69 u70 u71 u72 u73 u74 u75 u76 u77 u78 u79 u80 u81 u82 u83 u84 u85 u86 u87 u88 u89 u90 u91 u92 u93 u94 u95 u96 u97 u98 u99 u100 u101 u102 u103 u104 u105 u106 u107 u108 u109 u110 u111 u112 u113 u114 u115 u116 u117 u118 u119 u120 u121 u122 u123 u124 u125 u126 u127 u128 u129 u130 u131 u132 u133 u134 u135 u136 u137 u138 u139 u140 u141 u142 u143 u144 u145 u146 u147 u148 u149 u150 u151 u152 u153 u154 u155 u156 u157 u158 u159 u160 u161 u162 u163 u164 u165 u166 u167 u168 u169 u170 u171 u172 u173 u174 u175 u176 u177 u178 u179 u180 u181 u182 u183 u184 u185 u186 u187 u188 u189 u190 u191 u192 u193 u194 u195 u196 u197 u198 u199 u200 u201 u202 u203 u204 u205 u206 u207 u208 u209 u210 u211 u212 u213 u214 u215 u216 u217 u218 u219 u220 u221 u222 u223 u224 u225 u226 u227 u228 u229 u230 u231 u232 u233 u234 u235 u236 u237 u238 u239 u240 u241 u242 u243 u244 u245 u246 u247 u248 u249 u250 u251 u252 u253 u254 u255 u256 u257 u258 u259 u260 u261 u262 u263 u264 u265 u266 u267 u268 u269 u270 u271 u272 u273 u274 u275 u276 u277 u278 u279 u280 u281 u282 u283 u284 u285 u286 u287 u288 u289 u290 u291 u292 u293 u294 u295 u296 u297 u298 u299 u300 u301 u302 u303 u304 u305 u306 u307 u308 u309 u310 u311 u312 u313 u314 u315 u316 u317 : Value}
    (F : TF xs ys bs n1 n2 n3 i n) (hE : StK w W (L5 (.slice a1 n1 c1) (.slice a2 n2 c2) (.slice a3 n3 c3) x y xs ys bs))
    (hs : xs.length ≤ 80) (hn : n ≤ 640) (harg : n < 0 ∨ 8 * n < nbits (val xs)) :
    Code.wp Try.prog (restN 15 tellsBody) (QT w) ⟨#[.slice a1 n1 c1, .slice a2 n2 c2, .int .i64 i, .slice a3 n3 c3, .int .i64 n, u5, u6, u7, u8, u9, u10, x, y, u13, u14, u15, u16, u17, u18, u19, u20, u21, u22, u23, u24, u25, u26, u27, u28, u29, u30, u31, u32, u33, u34, u35, u36, u37, u38, u39, u40, u41, u42, u43, u44, u45, u46, u47, u48, u49, u50, u51, u52, u53, u54, u55, u56, u57, u58, u59, u60, u61, u62, u63, u64, u65, u66, u67, u68, u69, u70, u71, u72, u73, u74, u75, u76, u77, u78, u79, u80, u81, u82, u83, u84, u85, u86, u87, u88, u89, u90, u91, u92, u93, u94, u95, u96, u97, u98, u99, u100, u101, u102, u103, u104, u105, u106, u107, u108, u109, u110, u111, u112, u113, u114, u115, u116, u117, u118, u119, u120, u121, u122, u123, u124, u125, u126, u127, u128, u129, u130, u131, u132, u133, u134, u135, u136, u137, u138, u139, u140, u141, u142, u143, u144, u145, u146, u147, u148, u149, u150, u151, u152, u153, u154, u155, u156, u157, u158, u159, u160, u161, u162, u163, u164, u165, u166, u167, u168, u169, u170, u171, u172, u173, u174, u175, u176, u177, u178, u179, u180, u181, u182, u183, u184, u185, u186, u187, u188, u189, u190, u191, u192, u193, u194, u195, u196, u197, u198, u199, u200, u201, u202, u203, u204, u205, u206, u207, u208, u209, u210, u211, u212, u213, u214, u215, u216, u217, u218, u219, u220, u221, u222, u223, u224, u225, u226, u227, u228, u229, u230, u231, u232, u233, u234, u235, u236, u237, u238, u239, u240, u241, u242, u243, u244, u245, u246, u247, u248, u249, u250, u251, u252, u253, u254, u255, u256, u257, u258, u259, u260, u261, u262, u263, u264, u265, u266, u267, u268, u269, u270, u271, u272, u273, u274, u275, u276, u277, u278, u279, u280, u281, u282, u283, u284, u285, u286, u287, u288, u289, u290, u291, u292, u293, u294, u295, u296, u297, u298, u299, u300, u301, u302, u303, u304, u305, u306, u307, u308, u309, u310, u311, u312, u313, u314, u315, u316, u317], []⟩ W := by
  conv => arg 2; whnf
  have hB := Bytes_arg W (hE.get (i := 0) rfl) F.x1 n hs hn F.hn.1 harg
  have hn1 : ¬ (640 : Int) < n := by omega
  have HLo := Lib.hid (decide_eq_false (by omega : ¬ 80 < xs.length))
  by_cases h : n < 0
  · have HB := Lib.hid hB
    clear hB harg hs hn
    go_wp2_with fail
    go_at_call 31
    refine HB.out.mono ?_
    rintro e w' ⟨rfl, hb⟩
    replace hE := hE.go hb
    clear HB hb
    go_wp2_with fail
    go_at_call 11
    refine (Long_k hE 0 rfl HLo.out).mono ?_
    rintro e w' ⟨rfl, hw⟩
    obtain rfl := hw
    go_wp2_with fail
    go_at_call 9
    refine (wakes_k hE).mono ?_
    clear hE
    rintro e W ⟨rfl, hE⟩
    go_wp2_with fail
    go_ret
    exact ⟨rfl, hE.below⟩
  · obtain ⟨nb, hnb⟩ : ∃ nb, nbits (val xs) = nb := ⟨_, rfl⟩
    rw [hnb] at harg
    have hgt : 8 * n < (nb : Int) := by omega
    have hw8 : IntKind.i64.wrap (8 * n) = 8 * n := IntWalk.i64_in _ (by omega)
    have HB := Lib.hid hB
    have HN := Lib.hid hnb
    have HD := Lib.hid F.dx
    clear hB harg hs hn hnb
    go_wp2_with fail
    go_at_call 31
    refine HB.out.mono ?_
    rintro e w' ⟨rfl, hb⟩
    replace hE := hE.go hb
    clear HB hb
    go_wp2_with fail
    go_at_call 11
    refine (Long_k hE 0 rfl HLo.out).mono ?_
    rintro e w' ⟨rfl, hw⟩
    obtain rfl := hw
    go_wp2_with fail
    go_at_call 19
    refine (BitsRef_k hE 3 rfl (Nat.le_trans HD.out (by omega)) HN.out).mono ?_
    rintro e w' ⟨rfl, hw⟩
    obtain rfl := hw
    go_wp2_with fail
    go_at_call 9
    refine (wakes_k hE).mono ?_
    clear hE
    rintro e W ⟨rfl, hE⟩
    go_wp2_with fail
    go_ret
    exact ⟨rfl, hE.below⟩

set_option maxRecDepth 100000 in
set_option maxHeartbeats 4000000 in
theorem P15_ok {w W : World} {xs ys bs : List Nat} {n1 n2 n3 c1 c2 c3 : Nat} {a1 a2 a3 : Option Addr} {i n : Int} {x y : Value} {u5 u6 u7 u8 u9 u10 u13 u14 u15 u16 u17 u18 u19 u20 u21 u22 u23 u24 u25 u26 u27 u28 u29 u30 u31 u32 u33 u34 u35 u36 u37 u38 u39 u40 u41 u42 u43 u44 u45 u46 u47 u48 u49 u50 u51 u52 u53 u54 u55 u56 u57 u58 u59 u60 u61 u62 u63 u64 u65 u66 u67 u68 u69 u70 u71 u72 u73 u74 u75 u76 u77 u78 u79 u80 u81 u82 u83 u84 u85 u86 u87 u88 u89 u90 u91 u92 u93 u94 u95 u96 u97 u98 u99 u100 u101 u102 u103 u104 u105 u106 u107 u108 u109 u110 u111 u112 u113 u114 u115 u116 u117 u118 u119 u120 u121 u122 u123 u124 u125 u126 u127 u128 u129 u130 u131 u132 u133 u134 u135 u136 u137 u138 u139 u140 u141 u142 u143 u144 u145 u146 u147 u148 u149 u150 u151 u152 u153 u154 u155 u156 u157 u158 u159 u160 u161 u162 u163 u164 u165 u166 u167 u168 u169 u170 u171 u172 u173 u174 u175 u176 u177 u178 u179 u180 u181 u182 u183 u184 u185 u186 u187 u188 u189 u190 u191 u192 u193 u194 u195 u196 u197 u198 u199 u200 u201 u202 u203 u204 u205 u206 u207 u208 u209 u210 u211 u212 u213 u214 u215 u216 u217 u218 u219 u220 u221 u222 u223 u224 u225 u226 u227 u228 u229 u230 u231 u232 u233 u234 u235 u236 u237 u238 u239 u240 u241 u242 u243 u244 u245 u246 u247 u248 u249 u250 u251 u252 u253 u254 u255 u256 u257 u258 u259 u260 u261 u262 u263 u264 u265 u266 u267 u268 u269 u270 u271 u272 u273 u274 u275 u276 u277 u278 u279 u280 u281 u282 u283 u284 u285 u286 u287 u288 u289 u290 u291 u292 u293 u294 u295 u296 u297 u298 u299 u300 u301 u302 u303 u304 u305 u306 u307 u308 u309 u310 u311 u312 u313 u314 u315 u316 u317 : Value}
    (F : TF xs ys bs n1 n2 n3 i n) (hE : StK w W (L5 (.slice a1 n1 c1) (.slice a2 n2 c2) (.slice a3 n3 c3) x y xs ys bs))
    (hs : xs.length ≤ 80) (hn : n ≤ 640) (h0 : 0 ≤ n) (hle : nbits (val xs) ≤ 8 * n) :
    Code.wp Try.prog (restN 15 tellsBody) (QT w) ⟨#[.slice a1 n1 c1, .slice a2 n2 c2, .int .i64 i, .slice a3 n3 c3, .int .i64 n, u5, u6, u7, u8, u9, u10, x, y, u13, u14, u15, u16, u17, u18, u19, u20, u21, u22, u23, u24, u25, u26, u27, u28, u29, u30, u31, u32, u33, u34, u35, u36, u37, u38, u39, u40, u41, u42, u43, u44, u45, u46, u47, u48, u49, u50, u51, u52, u53, u54, u55, u56, u57, u58, u59, u60, u61, u62, u63, u64, u65, u66, u67, u68, u69, u70, u71, u72, u73, u74, u75, u76, u77, u78, u79, u80, u81, u82, u83, u84, u85, u86, u87, u88, u89, u90, u91, u92, u93, u94, u95, u96, u97, u98, u99, u100, u101, u102, u103, u104, u105, u106, u107, u108, u109, u110, u111, u112, u113, u114, u115, u116, u117, u118, u119, u120, u121, u122, u123, u124, u125, u126, u127, u128, u129, u130, u131, u132, u133, u134, u135, u136, u137, u138, u139, u140, u141, u142, u143, u144, u145, u146, u147, u148, u149, u150, u151, u152, u153, u154, u155, u156, u157, u158, u159, u160, u161, u162, u163, u164, u165, u166, u167, u168, u169, u170, u171, u172, u173, u174, u175, u176, u177, u178, u179, u180, u181, u182, u183, u184, u185, u186, u187, u188, u189, u190, u191, u192, u193, u194, u195, u196, u197, u198, u199, u200, u201, u202, u203, u204, u205, u206, u207, u208, u209, u210, u211, u212, u213, u214, u215, u216, u217, u218, u219, u220, u221, u222, u223, u224, u225, u226, u227, u228, u229, u230, u231, u232, u233, u234, u235, u236, u237, u238, u239, u240, u241, u242, u243, u244, u245, u246, u247, u248, u249, u250, u251, u252, u253, u254, u255, u256, u257, u258, u259, u260, u261, u262, u263, u264, u265, u266, u267, u268, u269, u270, u271, u272, u273, u274, u275, u276, u277, u278, u279, u280, u281, u282, u283, u284, u285, u286, u287, u288, u289, u290, u291, u292, u293, u294, u295, u296, u297, u298, u299, u300, u301, u302, u303, u304, u305, u306, u307, u308, u309, u310, u311, u312, u313, u314, u315, u316, u317], []⟩ W := by
  obtain ⟨m, rfl⟩ := Int.eq_ofNat_of_zero_le h0
  conv => arg 2; whnf
  have hlt : val xs < 2 ^ (8 * m) := (nbits_le_iff _ _).1 (by omega)
  have hB := Bytes_any W (hE.get (i := 0) rfl) F.x1 hs m (by omega) hlt
  have hn1 : ¬ (640 : Int) < (m : Int) := by omega
  have hn0 : ¬ (m : Int) < 0 := by omega
  have HLo := Lib.hid (decide_eq_false (by omega : ¬ 80 < xs.length))
  obtain ⟨nb, hnb⟩ : ∃ nb, nbits (val xs) = nb := ⟨_, rfl⟩
  rw [hnb] at hle
  have hgt : ¬ 8 * (m : Int) < (nb : Int) := by omega
  have hw8 : IntKind.i64.wrap (8 * (m : Int)) = 8 * (m : Int) := IntWalk.i64_in _ (by omega)
  have HB := Lib.hid hB
  have HN := Lib.hid hnb
  have HD := Lib.hid F.dx
  have HM := Lib.hid hn
  clear hB hs hn hnb hlt h0 hle
  go_wp2_with fail
  go_at_call 31
  refine HB.out.mono ?_
  rintro e w' ⟨b, rfl, hb, hk⟩
  replace hE := hE.go hb
  clear HB hb
  go_wp2_with fail
  go_at_call 11
  refine (Long_k hE 0 rfl HLo.out).mono ?_
  rintro e w' ⟨rfl, hw⟩
  obtain rfl := hw
  go_wp2_with fail
  go_at_call 19
  refine (BitsRef_k hE 3 rfl (Nat.le_trans HD.out (by omega)) HN.out).mono ?_
  rintro e w' ⟨rfl, hw⟩
  obtain rfl := hw
  obtain ⟨S, hS⟩ : ∃ S, strOfNums ((bytesOf (val xs) m).map Int.ofNat) = S := ⟨_, rfl⟩
  have hc1 : ∀ W : World, Below w'.heap.size w' W → (convert 23 9 (.slice (some ⟨b, 0, none⟩) m m)).run Try.prog W = .ok (.string S) W := fun W h => hS ▸ conv_text (hk.below h) (bytesOf_length _ _) (by have := HM.out; omega)
  have hB2 : ∀ W : World, Below w'.heap.size w' W → Calls Try.prog 32 #[x, .int .i64 m] W fun e w2 => ∃ b2, e = .returned (.slice (some ⟨b2, 0, none⟩) m m) ∧ Below w'.heap.size w' w2 ∧ (convert 23 9 (.slice (some ⟨b2, 0, none⟩) m m)).run Try.prog w2 = .ok (.string S) w2 := by
    intro W h
    refine (Bytes_ref W (((hE.get (i := 3) rfl)).below h) (Dig.toW_wf _) m (by have := HM.out; omega)).mono ?_
    rintro e w2 ⟨he, hb, hk2⟩
    rw [Dig.val_toW] at hk2
    exact ⟨_, he, Below.follow h hb, hS ▸ conv_text hk2 (bytesOf_length _ _) (by have := HM.out; omega)⟩
  have hW2 : ∀ W : World, Below w'.heap.size w' W → Calls Try.prog 9 #[] W fun e w2 => e = .returned (.bool true) ∧ Below w'.heap.size w' w2 := by
    intro W h
    refine (wakes_any W W [] (St.nil W)).mono ?_
    rintro e w2 ⟨he, hs⟩
    exact ⟨he, Below.follow h hs.below⟩
  have HB2 := Lib.hid hB2
  have HW2 := Lib.hid hW2
  have HE := Lib.hid hE.below
  clear hk hS hB2 hW2 hE F
  go_upto_region 43 with fail
  clear hw8 hgt hn0 hn1
  go_region_held (fun W => Below w'.heap.size w' W) (first | exact below_drewN (Below.refl _ _) 1 | assumption) (first | (go_at_call 32; refine (HB2.out _ (by assumption)).mono ?_; rintro e w2 ⟨b2, rfl, hb2, hc2⟩) | (go_at_call 9; refine (HW2.out _ (by assumption)).mono ?_; rintro e w3 ⟨rfl, hb3⟩))
  go_wp2_with fail
  go_ret
  exact ⟨rfl, Below.follow HE.out hb3⟩

/-- the last statement, whatever came before -/
theorem P15 {w W : World} {xs ys bs : List Nat} {n1 n2 n3 c1 c2 c3 : Nat} {a1 a2 a3 : Option Addr} {i n : Int} {x y : Value} {u5 u6 u7 u8 u9 u10 u13 u14 u15 u16 u17 u18 u19 u20 u21 u22 u23 u24 u25 u26 u27 u28 u29 u30 u31 u32 u33 u34 u35 u36 u37 u38 u39 u40 u41 u42 u43 u44 u45 u46 u47 u48 u49 u50 u51 u52 u53 u54 u55 u56 u57 u58 u59 u60 u61 u62 u63 u64 u65 u66 u67 u68 u69 u70 u71 u72 u73 u74 u75 u76 u77 u78 u79 u80 u81 u82 u83 u84 u85 u86 u87 u88 u89 u90 u91 u92 u93 u94 u95 u96 u97 u98 u99 u100 u101 u102 u103 u104 u105 u106 u107 u108 u109 u110 u111 u112 u113 u114 u115 u116 u117 u118 u119 u120 u121 u122 u123 u124 u125 u126 u127 u128 u129 u130 u131 u132 u133 u134 u135 u136 u137 u138 u139 u140 u141 u142 u143 u144 u145 u146 u147 u148 u149 u150 u151 u152 u153 u154 u155 u156 u157 u158 u159 u160 u161 u162 u163 u164 u165 u166 u167 u168 u169 u170 u171 u172 u173 u174 u175 u176 u177 u178 u179 u180 u181 u182 u183 u184 u185 u186 u187 u188 u189 u190 u191 u192 u193 u194 u195 u196 u197 u198 u199 u200 u201 u202 u203 u204 u205 u206 u207 u208 u209 u210 u211 u212 u213 u214 u215 u216 u217 u218 u219 u220 u221 u222 u223 u224 u225 u226 u227 u228 u229 u230 u231 u232 u233 u234 u235 u236 u237 u238 u239 u240 u241 u242 u243 u244 u245 u246 u247 u248 u249 u250 u251 u252 u253 u254 u255 u256 u257 u258 u259 u260 u261 u262 u263 u264 u265 u266 u267 u268 u269 u270 u271 u272 u273 u274 u275 u276 u277 u278 u279 u280 u281 u282 u283 u284 u285 u286 u287 u288 u289 u290 u291 u292 u293 u294 u295 u296 u297 u298 u299 u300 u301 u302 u303 u304 u305 u306 u307 u308 u309 u310 u311 u312 u313 u314 u315 u316 u317 : Value}
    (F : TF xs ys bs n1 n2 n3 i n) (hE : StK w W (L5 (.slice a1 n1 c1) (.slice a2 n2 c2) (.slice a3 n3 c3) x y xs ys bs)) :
    Code.wp Try.prog (restN 15 tellsBody) (QT w) ⟨#[.slice a1 n1 c1, .slice a2 n2 c2, .int .i64 i, .slice a3 n3 c3, .int .i64 n, u5, u6, u7, u8, u9, u10, x, y, u13, u14, u15, u16, u17, u18, u19, u20, u21, u22, u23, u24, u25, u26, u27, u28, u29, u30, u31, u32, u33, u34, u35, u36, u37, u38, u39, u40, u41, u42, u43, u44, u45, u46, u47, u48, u49, u50, u51, u52, u53, u54, u55, u56, u57, u58, u59, u60, u61, u62, u63, u64, u65, u66, u67, u68, u69, u70, u71, u72, u73, u74, u75, u76, u77, u78, u79, u80, u81, u82, u83, u84, u85, u86, u87, u88, u89, u90, u91, u92, u93, u94, u95, u96, u97, u98, u99, u100, u101, u102, u103, u104, u105, u106, u107, u108, u109, u110, u111, u112, u113, u114, u115, u116, u117, u118, u119, u120, u121, u122, u123, u124, u125, u126, u127, u128, u129, u130, u131, u132, u133, u134, u135, u136, u137, u138, u139, u140, u141, u142, u143, u144, u145, u146, u147, u148, u149, u150, u151, u152, u153, u154, u155, u156, u157, u158, u159, u160, u161, u162, u163, u164, u165, u166, u167, u168, u169, u170, u171, u172, u173, u174, u175, u176, u177, u178, u179, u180, u181, u182, u183, u184, u185, u186, u187, u188, u189, u190, u191, u192, u193, u194, u195, u196, u197, u198, u199, u200, u201, u202, u203, u204, u205, u206, u207, u208, u209, u210, u211, u212, u213, u214, u215, u216, u217, u218, u219, u220, u221, u222, u223, u224, u225, u226, u227, u228, u229, u230, u231, u232, u233, u234, u235, u236, u237, u238, u239, u240, u241, u242, u243, u244, u245, u246, u247, u248, u249, u250, u251, u252, u253, u254, u255, u256, u257, u258, u259, u260, u261, u262, u263, u264, u265, u266, u267, u268, u269, u270, u271, u272, u273, u274, u275, u276, u277, u278, u279, u280, u281, u282, u283, u284, u285, u286, u287, u288, u289, u290, u291, u292, u293, u294, u295, u296, u297, u298, u299, u300, u301, u302, u303, u304, u305, u306, u307, u308, u309, u310, u311, u312, u313, u314, u315, u316, u317], []⟩ W := by
  by_cases h1 : 80 < xs.length ∨ 640 < n
  · exact P15_long hE h1
  · by_cases h2 : n < 0 ∨ 8 * n < nbits (val xs)
    · exact P15_arg F hE (by omega) (by omega) h2
    · exact P15_ok F hE (by omega) (by omega) (by omega) (by omega)
end Go.Proofs.Ytocmmabpebbdaaa
