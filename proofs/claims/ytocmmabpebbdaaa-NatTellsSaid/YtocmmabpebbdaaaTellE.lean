/- NatTells: what the calls told. -/
import Derived.Test.YtocmmabpebbdaaaTellD
namespace Go.Proofs.Ytocmmabpebbdaaa
open Go.RowKit

theorem dig_mono {a b : Nat} (h : a ≤ b) : (Dig.toW a).length ≤ (Dig.toW b).length := by
  refine Dig.toW_length_le ?_
  have h1 := Dig.val_lt (Dig.toW_wf b)
  rw [Dig.val_toW] at h1
  omega
abbrev L10 (v1 v2 v3 x y s d p q r : Value) (xs ys bs La Ls Lm Lq Lr : List Nat) : List EntK := L5 v1 v2 v3 x y xs ys bs ++ [⟨.u64, s, La⟩, ⟨.u64, d, Ls⟩, ⟨.u64, p, Lm⟩, ⟨.u64, q, Lq⟩, ⟨.u64, r, Lr⟩]

set_option maxRecDepth 100000 in
set_option maxHeartbeats 4000000 in
theorem P12_long {w W : World} {xs ys bs : List Nat} {n1 n2 n3 c1 c2 c3 : Nat} {a1 a2 a3 : Option Addr} {i n : Int} {x y : Value} {a4 ad ap aq ar : Option Addr} {cs cd cp cq cr : Nat} {u5 u6 u7 u8 u9 u10 u23 u24 u25 u26 u27 u28 u29 u30 u31 u32 u33 u34 u35 u36 u37 u38 u39 u40 u41 u42 u43 u44 u45 u46 u47 u48 u49 u50 u51 u52 u53 u54 u55 u56 u57 u58 u59 u60 u61 u62 u63 u64 u65 u66 u67 u68 u69 u70 u71 u72 u73 u74 u75 u76 u77 u78 u79 u80 u81 u82 u83 u84 u85 u86 u87 u88 u89 u90 u91 u92 u93 u94 u95 u96 u97 u98 u99 u100 u101 u102 u103 u104 u105 u106 u107 u108 u109 u110 u111 u112 u113 u114 u115 u116 u117 u118 u119 u120 u121 u122 u123 u124 u125 u126 u127 u128 u129 u130 u131 u132 u133 u134 u135 u136 u137 u138 u139 u140 u141 u142 u143 u144 u145 u146 u147 u148 u149 u150 u151 u152 u153 u154 u155 u156 u157 u158 u159 u160 u161 u162 u163 u164 u165 u166 u167 u168 u169 u170 u171 u172 u173 u174 u175 u176 u177 u178 u179 u180 u181 u182 u183 u184 u185 u186 u187 u188 u189 u190 u191 u192 u193 u194 u195 u196 u197 u198 u199 u200 u201 u202 u203 u204 u205 u206 u207 u208 u209 u210 u211 u212 u213 u214 u215 u216 u217 u218 u219 u220 u221 u222 u223 u224 u225 u226 u227 u228 u229 u230 u231 u232 u233 u234 u235 u236 u237 u238 u239 u240 u241 u242 u243 u244 u245 u246 u247 u248 u249 u250 u251 u252 u253 u254 u255 u256 u257 u258 u259 u260 u261 u262 u263 u264 u265 u266 u267 u268 u269 u270 u271 u272 u273 u274 u275 u276 u277 u278 u279 u280 u281 u282 u283 u284 u285 u286 u287 u288 u289 u290 u291 u292 u293 u294 u295 u296 u297 u298 u299 u300 u301 u302 u303 u304 u305 u306 u307 u308 u309 u310 u311 u312 u313 u314 u315 u316 u317 : Value}
    (F : TF xs ys bs n1 n2 n3 i n) (hE : StK w W (L5 (.slice a1 n1 c1) (.slice a2 n2 c2) (.slice a3 n3 c3) x y xs ys bs)) :
    Code.wp Try.prog (restN 12 tellsBody) (QT w) ⟨#[.slice a1 n1 c1, .slice a2 n2 c2, .int .i64 i, .slice a3 n3 c3, .int .i64 n, u5, u6, u7, u8, u9, u10, x, y, .bool true, .slice a4 0 cs, .int .i64 11, .slice ad 0 cd, .int .i64 11, .slice ap 0 cp, .int .i64 11, .slice aq 0 cq, .slice ar 0 cr, .int .i64 11, u23, u24, u25, u26, u27, u28, u29, u30, u31, u32, u33, u34, u35, u36, u37, u38, u39, u40, u41, u42, u43, u44, u45, u46, u47, u48, u49, u50, u51, u52, u53, u54, u55, u56, u57, u58, u59, u60, u61, u62, u63, u64, u65, u66, u67, u68, u69, u70, u71, u72, u73, u74, u75, u76, u77, u78, u79, u80, u81, u82, u83, u84, u85, u86, u87, u88, u89, u90, u91, u92, u93, u94, u95, u96, u97, u98, u99, u100, u101, u102, u103, u104, u105, u106, u107, u108, u109, u110, u111, u112, u113, u114, u115, u116, u117, u118, u119, u120, u121, u122, u123, u124, u125, u126, u127, u128, u129, u130, u131, u132, u133, u134, u135, u136, u137, u138, u139, u140, u141, u142, u143, u144, u145, u146, u147, u148, u149, u150, u151, u152, u153, u154, u155, u156, u157, u158, u159, u160, u161, u162, u163, u164, u165, u166, u167, u168, u169, u170, u171, u172, u173, u174, u175, u176, u177, u178, u179, u180, u181, u182, u183, u184, u185, u186, u187, u188, u189, u190, u191, u192, u193, u194, u195, u196, u197, u198, u199, u200, u201, u202, u203, u204, u205, u206, u207, u208, u209, u210, u211, u212, u213, u214, u215, u216, u217, u218, u219, u220, u221, u222, u223, u224, u225, u226, u227, u228, u229, u230, u231, u232, u233, u234, u235, u236, u237, u238, u239, u240, u241, u242, u243, u244, u245, u246, u247, u248, u249, u250, u251, u252, u253, u254, u255, u256, u257, u258, u259, u260, u261, u262, u263, u264, u265, u266, u267, u268, u269, u270, u271, u272, u273, u274, u275, u276, u277, u278, u279, u280, u281, u282, u283, u284, u285, u286, u287, u288, u289, u290, u291, u292, u293, u294, u295, u296, u297, u298, u299, u300, u301, u302, u303, u304, u305, u306, u307, u308, u309, u310, u311, u312, u313, u314, u315, u316, u317], []⟩ W := by
  conv => arg 2; whnf
  refine wp_seq_m (y' := restN 13 tellsBody) rfl ?_
  intro J hJ
  go_wp2_with fail
  refine Met.intro ?_
  exact P13 F hE

set_option maxRecDepth 100000 in
set_option maxHeartbeats 4000000 in
theorem P12_short {w W : World} {xs ys bs : List Nat} {n1 n2 n3 c1 c2 c3 : Nat} {a1 a2 a3 : Option Addr} {i n : Int} {x y s d p q r : Value} {es ed : Int} {Ls Lq Lr : List Nat} {u5 u6 u7 u8 u9 u10 u23 u24 u25 u26 u27 u28 u29 u30 u31 u32 u33 u34 u35 u36 u37 u38 u39 u40 u41 u42 u43 u44 u45 u46 u47 u48 u49 u50 u51 u52 u53 u54 u55 u56 u57 u58 u59 u60 u61 u62 u63 u64 u65 u66 u67 u68 u69 u70 u71 u72 u73 u74 u75 u76 u77 u78 u79 u80 u81 u82 u83 u84 u85 u86 u87 u88 u89 u90 u91 u92 u93 u94 u95 u96 u97 u98 u99 u100 u101 u102 u103 u104 u105 u106 u107 u108 u109 u110 u111 u112 u113 u114 u115 u116 u117 u118 u119 u120 u121 u122 u123 u124 u125 u126 u127 u128 u129 u130 u131 u132 u133 u134 u135 u136 u137 u138 u139 u140 u141 u142 u143 u144 u145 u146 u147 u148 u149 u150 u151 u152 u153 u154 u155 u156 u157 u158 u159 u160 u161 u162 u163 u164 u165 u166 u167 u168 u169 u170 u171 u172 u173 u174 u175 u176 u177 u178 u179 u180 u181 u182 u183 u184 u185 u186 u187 u188 u189 u190 u191 u192 u193 u194 u195 u196 u197 u198 u199 u200 u201 u202 u203 u204 u205 u206 u207 u208 u209 u210 u211 u212 u213 u214 u215 u216 u217 u218 u219 u220 u221 u222 u223 u224 u225 u226 u227 u228 u229 u230 u231 u232 u233 u234 u235 u236 u237 u238 u239 u240 u241 u242 u243 u244 u245 u246 u247 u248 u249 u250 u251 u252 u253 u254 u255 u256 u257 u258 u259 u260 u261 u262 u263 u264 u265 u266 u267 u268 u269 u270 u271 u272 u273 u274 u275 u276 u277 u278 u279 u280 u281 u282 u283 u284 u285 u286 u287 u288 u289 u290 u291 u292 u293 u294 u295 u296 u297 u298 u299 u300 u301 u302 u303 u304 u305 u306 u307 u308 u309 u310 u311 u312 u313 u314 u315 u316 u317 : Value}
    (F : TF xs ys bs n1 n2 n3 i n) (hes : es = if val xs < val ys then 1 else 0) (hLs : Ls = if val xs < val ys then [] else toW (val xs - val ys))
    (hed : ed = if val ys = 0 then 20 else 0) (hLq : Lq = if val ys = 0 then [] else toW (val xs / val ys)) (hLr : Lr = if val ys = 0 then [] else toW (val xs % val ys))
    (hE : StK w W (L10 (.slice a1 n1 c1) (.slice a2 n2 c2) (.slice a3 n3 c3) x y s d p q r xs ys bs (toW (val xs + val ys)) Ls (toW (val xs * val ys)) Lq Lr)) :
    Code.wp Try.prog (restN 12 tellsBody) (QT w) ⟨#[.slice a1 n1 c1, .slice a2 n2 c2, .int .i64 i, .slice a3 n3 c3, .int .i64 n, u5, u6, u7, u8, u9, u10, x, y, .bool false, s, .int .i64 0, d, .int .i64 es, p, .int .i64 0, q, r, .int .i64 ed, u23, u24, u25, u26, u27, u28, u29, u30, u31, u32, u33, u34, u35, u36, u37, u38, u39, u40, u41, u42, u43, u44, u45, u46, u47, u48, u49, u50, u51, u52, u53, u54, u55, u56, u57, u58, u59, u60, u61, u62, u63, u64, u65, u66, u67, u68, u69, u70, u71, u72, u73, u74, u75, u76, u77, u78, u79, u80, u81, u82, u83, u84, u85, u86, u87, u88, u89, u90, u91, u92, u93, u94, u95, u96, u97, u98, u99, u100, u101, u102, u103, u104, u105, u106, u107, u108, u109, u110, u111, u112, u113, u114, u115, u116, u117, u118, u119, u120, u121, u122, u123, u124, u125, u126, u127, u128, u129, u130, u131, u132, u133, u134, u135, u136, u137, u138, u139, u140, u141, u142, u143, u144, u145, u146, u147, u148, u149, u150, u151, u152, u153, u154, u155, u156, u157, u158, u159, u160, u161, u162, u163, u164, u165, u166, u167, u168, u169, u170, u171, u172, u173, u174, u175, u176, u177, u178, u179, u180, u181, u182, u183, u184, u185, u186, u187, u188, u189, u190, u191, u192, u193, u194, u195, u196, u197, u198, u199, u200, u201, u202, u203, u204, u205, u206, u207, u208, u209, u210, u211, u212, u213, u214, u215, u216, u217, u218, u219, u220, u221, u222, u223, u224, u225, u226, u227, u228, u229, u230, u231, u232, u233, u234, u235, u236, u237, u238, u239, u240, u241, u242, u243, u244, u245, u246, u247, u248, u249, u250, u251, u252, u253, u254, u255, u256, u257, u258, u259, u260, u261, u262, u263, u264, u265, u266, u267, u268, u269, u270, u271, u272, u273, u274, u275, u276, u277, u278, u279, u280, u281, u282, u283, u284, u285, u286, u287, u288, u289, u290, u291, u292, u293, u294, u295, u296, u297, u298, u299, u300, u301, u302, u303, u304, u305, u306, u307, u308, u309, u310, u311, u312, u313, u314, u315, u316, u317], []⟩ W := by
  conv => arg 2; whnf
  refine wp_seq_m (y' := restN 13 tellsBody) rfl ?_
  intro J hJ
  have hds : (Dig.toW (val xs + val ys)).length ≤ 10000 := by
    refine Nat.le_trans (dig_len (k := 101) ?_) (by omega)
    have h1 := Nat.lt_of_lt_of_le (val_lt F.x1) (Nat.pow_le_pow_right W64_pos F.l1)
    have h2 := Nat.lt_of_lt_of_le (val_lt F.x2) (Nat.pow_le_pow_right W64_pos F.l2)
    generalize val xs = X at *
    generalize val ys = Y at *
    have h3 : W64 ^ 100 * 2 ≤ W64 ^ 101 := by rw [Nat.pow_succ W64 100]; exact Nat.mul_le_mul_left _ (by rw [W64_eq]; omega)
    generalize W64 ^ 100 = P at *
    generalize W64 ^ 101 = R at *
    omega
  have hdm : (Dig.toW (val xs * val ys)).length ≤ 10000 := by
    refine Nat.le_trans (dig_len (k := 200) ?_) (by omega)
    have h1 := Nat.lt_of_lt_of_le (val_lt F.x1) (Nat.pow_le_pow_right W64_pos F.l1)
    have h2 := Nat.lt_of_lt_of_le (val_lt F.x2) (Nat.pow_le_pow_right W64_pos F.l2)
    have h3 : W64 ^ 200 = W64 ^ 100 * W64 ^ 100 := by rw [← Nat.pow_add]
    rw [h3]
    exact Nat.mul_lt_mul'' h1 h2
  have HDS := Lib.hid (And.intro hds hdm)
  clear hds hdm
  have HED := Lib.hid (And.intro hed (And.intro hLq hLr))
  have HES := Lib.hid (And.intro hes hLs)
  clear hed hLq hLr hes hLs
  go_wp2_with fail
  go_at_call 24
  refine (Plus_k hE 3 4 rfl rfl (Nat.le_trans F.dx (by omega)) (Nat.le_trans F.dy (by omega))).mono ?_
  clear hE
  rintro e W ⟨pd, rfl, hE⟩
  go_wp2_with fail
  go_at_call 22
  refine (Words_k hE 10 rfl HDS.out.1).mono ?_
  clear hE
  rintro e W ⟨pw, rfl, hE⟩
  go_wp2_with fail
  go_at_call 20
  refine (Same_k hE 5 11 rfl rfl rfl).mono ?_
  clear hE
  rintro e W ⟨rfl, hE⟩
  replace hE := hE.cut.cut
  go_wp2_with fail
  go_at_call 25
  refine (Times_k hE 3 4 rfl rfl (Nat.le_trans F.dx (by omega)) (Nat.le_trans F.dy (by omega))).mono ?_
  clear hE
  rintro e W ⟨td, rfl, hE⟩
  go_wp2_with fail
  go_at_call 22
  refine (Words_k hE 10 rfl HDS.out.2).mono ?_
  clear hE
  rintro e W ⟨tw, rfl, hE⟩
  go_wp2_with fail
  go_at_call 20
  refine (Same_k hE 7 11 rfl rfl rfl).mono ?_
  clear hE
  rintro e W ⟨rfl, hE⟩
  replace hE := hE.cut.cut
  obtain ⟨ay, cy, rfl⟩ := shut (hE.get (i := 4) rfl)
  go_wp2_with fail
  go_at_call 26
  by_cases hlt : val xs < val ys
  · refine (Less_k hE 3 4 rfl rfl (decide_eq_true hlt)).mono ?_
    clear hE
    rintro e W ⟨rfl, hE⟩
    obtain ⟨hes, hLs⟩ := HES.out
    have hes0 : es = 1 := by rw [hes, if_pos hlt]
    have hd0 : Ls.length = 0 := by rw [hLs, if_pos hlt]; rfl
    obtain ⟨ad, cd, ed2⟩ := shut (hE.get (i := 6) rfl)
    rw [hd0] at ed2
    subst hes0 ed2
    clear hlt hes hLs hd0 HES
    obtain ⟨hed, hLq, hLr⟩ := HED.out
    clear HED
    by_cases hz : val ys = 0
    · have hly : ((Dig.toW (val ys)).length : Int) = 0 := by rw [hz]; rfl
      have hed0 : ed = 20 := by rw [hed, if_pos hz]
      have hq0 : Lq.length = 0 := by rw [hLq, if_pos hz]; rfl
      have hr0 : Lr.length = 0 := by rw [hLr, if_pos hz]; rfl
      obtain ⟨aq, cq, eq⟩ := shut (hE.get (i := 8) rfl)
      obtain ⟨ar, cr, er⟩ := shut (hE.get (i := 9) rfl)
      rw [hq0] at eq
      rw [hr0] at er
      subst eq er hed0
      clear hed hLq hLr hz hq0 hr0
      generalize (Dig.toW (val ys)).length = ly at *
      go_wp2_with fail
      refine Met.intro ?_
      exact P13 F hE.cut
    · have hly : ¬ ((Dig.toW (val ys)).length : Int) = 0 := by
        intro h0
        have h1 : Dig.toW (val ys) = [] := List.length_eq_zero_iff.1 (by omega)
        have h2 := Dig.val_toW (val ys)
        rw [h1] at h2
        exact hz h2.symm
      have hed0 : ed = 0 := by rw [hed, if_neg hz]
      have hq0 : Lq = toW (val xs / val ys) := by rw [hLq, if_neg hz]
      have hr0 : Lr = toW (val xs % val ys) := by rw [hLr, if_neg hz]
      have hOv := Over_k hE 3 4 rfl rfl (Nat.le_trans F.dx (by omega)) (Nat.le_trans F.dy (by omega)) (Nat.pos_of_ne_zero hz)
      have hlq : (Dig.toW (val xs / val ys)).length ≤ 10000 := Nat.le_trans (dig_mono (Nat.div_le_self _ _)) (Nat.le_trans F.dx (by omega))
      have hlr : (Dig.toW (val xs % val ys)).length ≤ 10000 := Nat.le_trans (dig_mono (Nat.mod_le _ _)) (Nat.le_trans F.dx (by omega))
      have HOv := Lib.hid hOv
      have HQ := Lib.hid (And.intro hlq (And.intro hlr (And.intro hq0 hr0)))
      subst hed0
      clear hed hLq hLr hz hOv hlq hlr hq0 hr0
      obtain ⟨lyn, elyn⟩ : ∃ lyn, (Dig.toW (val ys)).length = lyn := ⟨_, rfl⟩
      rw [elyn] at hE HOv hly ⊢
      clear elyn
      go_wp2_with fail
      go_at_call 28
      refine HOv.out.mono ?_
      clear HOv hE
      rintro e W ⟨qd, rd, rfl, hE⟩
      go_wp2_with fail
      go_at_call 22
      refine (Words_k hE 10 rfl HQ.out.1).mono ?_
      clear hE
      rintro e W ⟨qw, rfl, hE⟩
      go_wp2_with fail
      go_at_call 20
      refine (Same_k hE 8 12 rfl rfl HQ.out.2.2.1).mono ?_
      clear hE
      rintro e W ⟨rfl, hE⟩
      go_wp2_with fail
      go_at_call 22
      refine (Words_k hE 11 rfl HQ.out.2.1).mono ?_
      clear hE
      rintro e W ⟨rw, rfl, hE⟩
      go_wp2_with fail
      go_at_call 20
      refine (Same_k hE 9 13 rfl rfl HQ.out.2.2.2).mono ?_
      clear hE
      rintro e W ⟨rfl, hE⟩
      go_wp2_with fail
      refine Met.intro ?_
      exact P13 F hE.cut.cut.cut.cut.cut
  · refine (Less_k hE 3 4 rfl rfl (decide_eq_false hlt)).mono ?_
    clear hE
    rintro e W ⟨rfl, hE⟩
    obtain ⟨hes, hLs⟩ := HES.out
    have hes0 : es = 0 := by rw [hes, if_neg hlt]
    have hd0 : Ls = toW (val xs - val ys) := by rw [hLs, if_neg hlt]
    have HMi := Lib.hid (Minus_k hE 3 4 rfl rfl (Nat.le_trans F.dx (by omega)) (Nat.le_of_not_lt hlt))
    have hlm : (Dig.toW (val xs - val ys)).length ≤ 10000 := Nat.le_trans (dig_mono (Nat.sub_le _ _)) (Nat.le_trans F.dx (by omega))
    subst hes0
    have HLM := Lib.hid (And.intro hlm hd0)
    clear hlt hes hLs hlm HES hd0
    go_wp2_with fail
    go_at_call 27
    refine HMi.out.mono ?_
    clear hE HMi
    rintro e W ⟨md, rfl, hE⟩
    go_wp2_with fail
    go_at_call 22
    refine (Words_k hE 10 rfl HLM.out.1).mono ?_
    clear hE
    rintro e W ⟨mw, rfl, hE⟩
    go_wp2_with fail
    go_at_call 20
    refine (Same_k hE 6 11 rfl rfl HLM.out.2).mono ?_
    clear hE
    rintro e W ⟨rfl, hE⟩
    replace hE := hE.cut.cut
    obtain ⟨hed, hLq, hLr⟩ := HED.out
    clear HED
    by_cases hz : val ys = 0
    · have hly : ((Dig.toW (val ys)).length : Int) = 0 := by rw [hz]; rfl
      have hed0 : ed = 20 := by rw [hed, if_pos hz]
      have hq0 : Lq.length = 0 := by rw [hLq, if_pos hz]; rfl
      have hr0 : Lr.length = 0 := by rw [hLr, if_pos hz]; rfl
      obtain ⟨aq, cq, eq⟩ := shut (hE.get (i := 8) rfl)
      obtain ⟨ar, cr, er⟩ := shut (hE.get (i := 9) rfl)
      rw [hq0] at eq
      rw [hr0] at er
      subst eq er hed0
      clear hed hLq hLr hz hq0 hr0
      generalize (Dig.toW (val ys)).length = ly at *
      go_wp2_with fail
      refine Met.intro ?_
      exact P13 F hE.cut
    · have hly : ¬ ((Dig.toW (val ys)).length : Int) = 0 := by
        intro h0
        have h1 : Dig.toW (val ys) = [] := List.length_eq_zero_iff.1 (by omega)
        have h2 := Dig.val_toW (val ys)
        rw [h1] at h2
        exact hz h2.symm
      have hed0 : ed = 0 := by rw [hed, if_neg hz]
      have hq0 : Lq = toW (val xs / val ys) := by rw [hLq, if_neg hz]
      have hr0 : Lr = toW (val xs % val ys) := by rw [hLr, if_neg hz]
      have hOv := Over_k hE 3 4 rfl rfl (Nat.le_trans F.dx (by omega)) (Nat.le_trans F.dy (by omega)) (Nat.pos_of_ne_zero hz)
      have hlq : (Dig.toW (val xs / val ys)).length ≤ 10000 := Nat.le_trans (dig_mono (Nat.div_le_self _ _)) (Nat.le_trans F.dx (by omega))
      have hlr : (Dig.toW (val xs % val ys)).length ≤ 10000 := Nat.le_trans (dig_mono (Nat.mod_le _ _)) (Nat.le_trans F.dx (by omega))
      have HOv := Lib.hid hOv
      have HQ := Lib.hid (And.intro hlq (And.intro hlr (And.intro hq0 hr0)))
      subst hed0
      clear hed hLq hLr hz hOv hlq hlr hq0 hr0
      obtain ⟨lyn, elyn⟩ : ∃ lyn, (Dig.toW (val ys)).length = lyn := ⟨_, rfl⟩
      rw [elyn] at hE HOv hly ⊢
      clear elyn
      go_wp2_with fail
      go_at_call 28
      refine HOv.out.mono ?_
      clear HOv hE
      rintro e W ⟨qd, rd, rfl, hE⟩
      go_wp2_with fail
      go_at_call 22
      refine (Words_k hE 10 rfl HQ.out.1).mono ?_
      clear hE
      rintro e W ⟨qw, rfl, hE⟩
      go_wp2_with fail
      go_at_call 20
      refine (Same_k hE 8 12 rfl rfl HQ.out.2.2.1).mono ?_
      clear hE
      rintro e W ⟨rfl, hE⟩
      go_wp2_with fail
      go_at_call 22
      refine (Words_k hE 11 rfl HQ.out.2.1).mono ?_
      clear hE
      rintro e W ⟨rw, rfl, hE⟩
      go_wp2_with fail
      go_at_call 20
      refine (Same_k hE 9 13 rfl rfl HQ.out.2.2.2).mono ?_
      clear hE
      rintro e W ⟨rfl, hE⟩
      go_wp2_with fail
      refine Met.intro ?_
      exact P13 F hE.cut.cut.cut.cut.cut
end Go.Proofs.Ytocmmabpebbdaaa
