/- NatTells: the number of bytes. -/
import Derived.Test.YtocmmabpebbdaaaTellC
namespace Go.Proofs.Ytocmmabpebbdaaa
open Go.RowKit

set_option maxRecDepth 100000 in
set_option maxHeartbeats 4000000 in
theorem P13 {w W : World} {xs ys bs : List Nat} {n1 n2 n3 c1 c2 c3 : Nat} {a1 a2 a3 : Option Addr} {i n : Int} {x y : Value} {u5 u6 u7 u8 u9 u10 u13 u14 u15 u16 u17 u18 u19 u20 u21 u22 u23 u24 u25 u26 u27 u28 u29 u30 u31 u32 u33 u34 u35 u36 u37 u38 u39 u40 u41 u42 u43 u44 u45 u46 u47 u48 u49 u50 u51 u52 u53 u54 u55 u56 u57 u58 u59 u60 u61 u62 u63 u64 u65 u66 u67 u68 u69 u70 u71 u72 u73 u74 u75 u76 u77 u78 u79 u80 u81 u82 u83 u84 u85 u86 u87 u88 u89 u90 u91 u92 u93 u94 u95 u96 u97 u98 u99 u100 u101 u102 u103 u104 u105 u106 u107 u108 u109 u110 u111 u112 u113 u114 u115 u116 u117 u118 u119 u120 u121 u122 u123 u124 u125 u126 u127 u128 u129 u130 u131 u132 u133 u134 u135 u136 u137 u138 u139 u140 u141 u142 u143 u144 u145 u146 u147 u148 u149 u150 u151 u152 u153 u154 u155 u156 u157 u158 u159 u160 u161 u162 u163 u164 u165 u166 u167 u168 u169 u170 u171 u172 u173 u174 u175 u176 u177 u178 u179 u180 u181 u182 u183 u184 u185 u186 u187 u188 u189 u190 u191 u192 u193 u194 u195 u196 u197 u198 u199 u200 u201 u202 u203 u204 u205 u206 u207 u208 u209 u210 u211 u212 u213 u214 u215 u216 u217 u218 u219 u220 u221 u222 u223 u224 u225 u226 u227 u228 u229 u230 u231 u232 u233 u234 u235 u236 u237 u238 u239 u240 u241 u242 u243 u244 u245 u246 u247 u248 u249 u250 u251 u252 u253 u254 u255 u256 u257 u258 u259 u260 u261 u262 u263 u264 u265 u266 u267 u268 u269 u270 u271 u272 u273 u274 u275 u276 u277 u278 u279 u280 u281 u282 u283 u284 u285 u286 u287 u288 u289 u290 u291 u292 u293 u294 u295 u296 u297 u298 u299 u300 u301 u302 u303 u304 u305 u306 u307 u308 u309 u310 u311 u312 u313 u314 u315 u316 u317 : Value}
    (F : TF xs ys bs n1 n2 n3 i n) (hE : StK w W (L5 (.slice a1 n1 c1) (.slice a2 n2 c2) (.slice a3 n3 c3) x y xs ys bs)) :
    Code.wp Try.prog (restN 13 tellsBody) (QT w) ⟨#[.slice a1 n1 c1, .slice a2 n2 c2, .int .i64 i, .slice a3 n3 c3, .int .i64 n, u5, u6, u7, u8, u9, u10, x, y, u13, u14, u15, u16, u17, u18, u19, u20, u21, u22, u23, u24, u25, u26, u27, u28, u29, u30, u31, u32, u33, u34, u35, u36, u37, u38, u39, u40, u41, u42, u43, u44, u45, u46, u47, u48, u49, u50, u51, u52, u53, u54, u55, u56, u57, u58, u59, u60, u61, u62, u63, u64, u65, u66, u67, u68, u69, u70, u71, u72, u73, u74, u75, u76, u77, u78, u79, u80, u81, u82, u83, u84, u85, u86, u87, u88, u89, u90, u91, u92, u93, u94, u95, u96, u97, u98, u99, u100, u101, u102, u103, u104, u105, u106, u107, u108, u109, u110, u111, u112, u113, u114, u115, u116, u117, u118, u119, u120, u121, u122, u123, u124, u125, u126, u127, u128, u129, u130, u131, u132, u133, u134, u135, u136, u137, u138, u139, u140, u141, u142, u143, u144, u145, u146, u147, u148, u149, u150, u151, u152, u153, u154, u155, u156, u157, u158, u159, u160, u161, u162, u163, u164, u165, u166, u167, u168, u169, u170, u171, u172, u173, u174, u175, u176, u177, u178, u179, u180, u181, u182, u183, u184, u185, u186, u187, u188, u189, u190, u191, u192, u193, u194, u195, u196, u197, u198, u199, u200, u201, u202, u203, u204, u205, u206, u207, u208, u209, u210, u211, u212, u213, u214, u215, u216, u217, u218, u219, u220, u221, u222, u223, u224, u225, u226, u227, u228, u229, u230, u231, u232, u233, u234, u235, u236, u237, u238, u239, u240, u241, u242, u243, u244, u245, u246, u247, u248, u249, u250, u251, u252, u253, u254, u255, u256, u257, u258, u259, u260, u261, u262, u263, u264, u265, u266, u267, u268, u269, u270, u271, u272, u273, u274, u275, u276, u277, u278, u279, u280, u281, u282, u283, u284, u285, u286, u287, u288, u289, u290, u291, u292, u293, u294, u295, u296, u297, u298, u299, u300, u301, u302, u303, u304, u305, u306, u307, u308, u309, u310, u311, u312, u313, u314, u315, u316, u317], []⟩ W := by
  conv => arg 2; whnf
  refine wp_seq_m (y' := restN 14 tellsBody) rfl ?_
  intro J hJ
  by_cases h : 640 < bs.length
  · have h3 : (640 : Int) < n3 := by have := F.e3; omega
    have hF := FromBytes_k hE 2 rfl F.x3
    simp only [if_pos h] at hF
    have HF := Lib.hid hF
    clear hF h
    go_wp2_with fail
    go_at_call 29
    refine HF.out.mono ?_
    clear HF
    rintro e W ⟨c, rfl, hE2⟩
    obtain ⟨ac, cc, rfl⟩ := shut (hE2.get (i := 5) rfl)
    go_wp2_with fail
    refine Met.intro ?_
    conv => arg 2; whnf
    refine wp_seq_m (y' := restN 15 tellsBody) rfl ?_
    intro J hJ
    go_wp2_with fail
    refine Met.intro ?_
    exact P15 F hE2.cut
  · have h3 : ¬ (640 : Int) < n3 := by have := F.e3; omega
    have hF := FromBytes_k hE 2 rfl F.x3
    simp only [if_neg h] at hF
    have HF := Lib.hid hF
    clear hF h
    go_wp2_with fail
    go_at_call 29
    refine HF.out.mono ?_
    clear HF
    rintro e W ⟨c, rfl, hE2⟩
    go_wp2_with fail
    refine Met.intro ?_
    conv => arg 2; whnf
    refine wp_seq_m (y' := restN 15 tellsBody) rfl ?_
    intro J hJ
    go_wp2_with fail
    go_at_call 30
    refine (FromBytesRef_k hE2 2 rfl F.x3 (by have := F.l3; omega)).mono ?_
    clear hE2
    rintro e W ⟨d, rfl, hE2⟩
    go_wp2_with fail
    go_at_call 22
    have hd : (Dig.toW (fromB bs)).length ≤ 10000 := by
      obtain ⟨K, hK⟩ : ∃ K, K = 350 := ⟨_, rfl⟩
      refine Nat.le_trans (Dig.toW_length_le (k := K) ?_) (by omega)
      refine Nat.lt_of_lt_of_le (fromB_lt bs F.x3) ?_
      rw [Dig.W16_two, ← Nat.pow_mul]
      exact Nat.pow_le_pow_right (by omega) (by have := F.l3; omega)
    refine (Words_k hE2 6 rfl hd).mono ?_
    clear hE2 hd
    rintro e W ⟨u, rfl, hE2⟩
    go_wp2_with fail
    go_at_call 20
    refine (Same_k hE2 5 7 rfl rfl rfl).mono ?_
    clear hE2
    rintro e W ⟨rfl, hE2⟩
    go_wp2_with fail
    refine Met.intro ?_
    exact P15 F hE2.cut.cut.cut
end Go.Proofs.Ytocmmabpebbdaaa
