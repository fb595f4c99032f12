/-
  PagerHolds: an act of kind 1.
-/
import Derived.Test.YtmlnpgbnbchbkaaDoorH34
import Derived.Test.YtmlnpgbnbchbkaaDoorGrHUnp
import Derived.LoopTactic
import Derived.Deep.LoopGhost
import Derived.Deep.CutBlock
import Derived.Deep.CutRange
import Derived.Deep.RegionHeld3
import Derived.Deep.RegionLaw
set_option linter.unusedVariables false
set_option linter.unusedSimpArgs false
set_option maxRecDepth 100000
namespace Go.Proofs.YtmlnpgbnbchbkaaDoor
open Go.RowKit

set_option maxHeartbeats 25600000 in
theorem kind_1 {w w3 : World} (HT : Hid (Tab w)) {kq : Option Addr} {kn kc : Nat} {keep : List Int} (HK : Hid (Ks w kq keep)) (HKN : Hid (kn = keep.length)) (hkm : kn ≤ 9223372036854775807) {N : Nat} (hN : N ≤ 31) {P p bd i m : Nat} (HLT : LtN i m) (HLT2 : LtN i 80) (i0 : (0 : Int) ≤ (i : Int)) (i2 : (i : Int) < 80) {bw : Nat} {u12 u13 : Value} (HI3 : Hid (PHE w w3 (4 + (N : Int)) P p (bd + 2) bd (bd + 1) i u12 u13)) (HW3 : Hid (Below w.heap.size w w3)) {kk : Int} {bq : Option Addr} {bn bc : Nat} (HPB : Hid (w3.heap[bw]? = some (.cells #[.int .i64 (1), .int .i64 kk, .slice bq bn bc] 39 (0, 0)))) {bl : List UInt8} (HBS : Hid (Bs w bq bl)) (HBN : Hid (bn = bl.length)) (h6 : bn ≤ 493) (hbc : Hid (bn ≤ bc)) {c1 c3 c4 c5 c8 c24 c25 c26 c27 c28 c29 c30 c31 c32 c33 c34 c35 c36 c37 c38 c39 c40 c41 c42 c43 c44 c45 c46 c47 c48 c49 c50 c51 c52 c53 c54 c333 c334 c335 c336 u6 u16 u17 u18 u19 u20 u21 u22 u23 u55 u56 u57 u58 u59 u60 u61 u62 u63 u64 u65 u66 u67 u68 u69 u70 u71 u72 u73 u74 u75 u76 u77 u78 u79 u80 u81 u82 u83 u84 u85 u86 u87 u88 u89 u90 u91 u92 u93 u94 u95 u96 u97 u98 u99 u100 u101 u102 u103 u104 u105 u106 u107 u108 u109 u110 u111 u112 u113 u114 u115 u116 u117 u118 u119 u120 u121 u122 u123 u124 u125 u126 u127 u128 u129 u130 u131 u132 u133 u134 u135 u136 u137 u138 u139 u140 u141 u142 u143 u144 u145 u146 u147 u148 u149 u150 u151 u152 u153 u154 u155 u156 u157 u158 u159 u160 u161 u162 u163 u164 u165 u166 u167 u168 u169 u170 u171 u172 u173 u174 u175 u176 u177 u178 u179 u180 u181 u182 u183 u184 u185 u186 u187 u188 u189 u190 u191 u192 u193 u194 u195 u196 u197 u198 u199 u200 u201 u202 u203 u204 u205 u206 u207 u208 u209 u210 u211 u212 u213 u214 u215 u216 u217 u218 u219 u220 u221 u222 u223 u224 u225 u226 u227 u228 u229 u230 u231 u232 u233 u234 u235 u236 u237 u238 u239 u240 u241 u242 u243 u244 u245 u246 u247 u248 u249 u250 u251 u252 u253 u254 u255 u256 u257 u258 u259 u260 u261 u262 u263 u264 u265 u266 u267 u268 u269 u270 u271 u272 u273 u274 u275 u276 u277 u278 u279 u280 u281 u282 u283 u284 u285 u286 u287 u288 u289 u290 u291 u292 u293 u294 u295 u296 u297 u298 u299 u300 u301 u302 u303 u304 u305 u306 u307 u308 u309 u310 u311 u312 u313 u314 u315 u316 u317 u318 u319 u320 u321 u322 u323 u324 u325 u326 u327 u328 u329 u330 u331 u332 : Value} {K0 K1 K2 K3 : Act → World → Prop} (hm : ∀ (v12 v13 v6 v16 v17 v18 v19 v20 v21 v22 v55 v56 v57 v58 v59 v60 v61 v62 v63 v64 v65 v66 v67 v68 v69 v70 v71 v72 v73 v74 v75 v76 v77 v78 v79 v80 v81 v82 v83 v84 v85 v86 v87 v88 v89 v90 v91 v92 v93 v94 v95 v96 v97 v98 v99 v100 v101 v102 v103 v104 v105 v106 v107 v108 v109 v110 v111 v112 v113 v114 v115 v116 v117 v118 v119 v120 v121 v122 v123 v124 v125 v126 v127 v128 v129 v130 v131 v132 v133 v134 v135 v136 v137 v138 v139 v140 v141 v142 v143 v144 v145 v146 v147 v148 v149 v150 v151 v152 v153 v154 v155 v156 v157 v158 v159 v160 v161 v162 v163 v164 v165 v166 v167 v168 v169 v170 v171 v172 v173 v174 v175 v176 v177 v178 v179 v180 v181 v182 v183 v184 v185 v186 v187 v188 v189 v190 v191 v192 v193 v194 v195 v196 v197 v198 v199 v200 v201 v202 v203 v204 v205 v206 v207 v208 v209 v210 v211 v212 v213 v214 v215 v216 v217 v218 v219 v220 v221 v222 v223 v224 v225 v226 v227 v228 v229 v230 v231 v232 v233 v234 v235 v236 v237 v238 v239 v240 v241 v242 v243 v244 v245 v246 v247 v248 v249 v250 v251 v252 v253 v254 v255 v256 v257 v258 v259 v260 v261 v262 v263 v264 v265 v266 v267 v268 v269 v270 v271 v272 v273 v274 v275 v276 v277 v278 v279 v280 v281 v282 v283 v284 v285 v286 v287 v288 v289 v290 v291 v292 v293 v294 v295 v296 v297 v298 v299 v300 v301 v302 v303 v304 v305 v306 v307 v308 v309 v310 v311 v312 v313 v314 v315 v316 v317 v318 v319 v320 v321 v322 v323 v324 v325 v326 v327 v328 v329 v330 v331 v332 : Value) (wx : World), PHE w wx (4 + (N : Int)) P p (bd + 2) bd (bd + 1) (i + 1) v12 v13 → K0 ⟨#[.int .i64 (4 + (N : Int)), c1, .slice kq kn kc, c3, c4, c5, v6, .pointer (some ⟨p, 0, none⟩), c8, .pointer (some ⟨P, 0, none⟩), .pointer (some ⟨bd, 0, none⟩), .pointer (some ⟨bd + 1, 0, none⟩), v12, v13, .int .i64 (i : Int), .pointer (some ⟨bw, 0, none⟩), v16, v17, v18, v19, v20, v21, v22, u23, c24, c25, c26, c27, c28, c29, c30, c31, c32, c33, c34, c35, c36, c37, c38, c39, c40, c41, c42, c43, c44, c45, c46, c47, c48, c49, c50, c51, c52, c53, c54, v55, v56, v57, v58, v59, v60, v61, v62, v63, v64, v65, v66, v67, v68, v69, v70, v71, v72, v73, v74, v75, v76, v77, v78, v79, v80, v81, v82, v83, v84, v85, v86, v87, v88, v89, v90, v91, v92, v93, v94, v95, v96, v97, v98, v99, v100, v101, v102, v103, v104, v105, v106, v107, v108, v109, v110, v111, v112, v113, v114, v115, v116, v117, v118, v119, v120, v121, v122, v123, v124, v125, v126, v127, v128, v129, v130, v131, v132, v133, v134, v135, v136, v137, v138, v139, v140, v141, v142, v143, v144, v145, v146, v147, v148, v149, v150, v151, v152, v153, v154, v155, v156, v157, v158, v159, v160, v161, v162, v163, v164, v165, v166, v167, v168, v169, v170, v171, v172, v173, v174, v175, v176, v177, v178, v179, v180, v181, v182, v183, v184, v185, v186, v187, v188, v189, v190, v191, v192, v193, v194, v195, v196, v197, v198, v199, v200, v201, v202, v203, v204, v205, v206, v207, v208, v209, v210, v211, v212, v213, v214, v215, v216, v217, v218, v219, v220, v221, v222, v223, v224, v225, v226, v227, v228, v229, v230, v231, v232, v233, v234, v235, v236, v237, v238, v239, v240, v241, v242, v243, v244, v245, v246, v247, v248, v249, v250, v251, v252, v253, v254, v255, v256, v257, v258, v259, v260, v261, v262, v263, v264, v265, v266, v267, v268, v269, v270, v271, v272, v273, v274, v275, v276, v277, v278, v279, v280, v281, v282, v283, v284, v285, v286, v287, v288, v289, v290, v291, v292, v293, v294, v295, v296, v297, v298, v299, v300, v301, v302, v303, v304, v305, v306, v307, v308, v309, v310, v311, v312, v313, v314, v315, v316, v317, v318, v319, v320, v321, v322, v323, v324, v325, v326, v327, v328, v329, v330, v331, v332, c333, c334, c335, c336], []⟩ wx) (hm1 : ∀ (v12 v13 v6 v16 v17 v18 v19 v20 v21 v22 v23 v55 v56 v57 v58 v59 v60 v61 v62 v63 v64 v65 v66 v67 v68 v69 v70 v71 v72 v73 v74 v75 v76 v77 v78 v79 v80 v81 v82 v83 v84 v85 v86 v87 v88 v89 v90 v91 v92 v93 v94 v95 v96 v97 v98 v99 v100 v101 v102 v103 v104 v105 v106 v107 v108 v109 v110 v111 v112 v113 v114 v115 v116 v117 v118 v119 v120 v121 v122 v123 v124 v125 v126 v127 v128 v129 v130 v131 v132 v133 v134 v135 v136 v137 v138 v139 v140 v141 v142 v143 v144 v145 v146 v147 v148 v149 v150 v151 v152 v153 v154 v155 v156 v157 v158 v159 v160 v161 v162 v163 v164 v165 v166 v167 v168 v169 v170 v171 v172 v173 v174 v175 v176 v177 v178 v179 v180 v181 v182 v183 v184 v185 v186 v187 v188 v189 v190 v191 v192 v193 v194 v195 v196 v197 v198 v199 v200 v201 v202 v203 v204 v205 v206 v207 v208 v209 v210 v211 v212 v213 v214 v215 v216 v217 v218 v219 v220 v221 v222 v223 v224 v225 v226 v227 v228 v229 v230 v231 v232 v233 v234 v235 v236 v237 v238 v239 v240 v241 v242 v243 v244 v245 v246 v247 v248 v249 v250 v251 v252 v253 v254 v255 v256 v257 v258 v259 v260 v261 v262 v263 v264 v265 v266 v267 v268 v269 v270 v271 v272 v273 v274 v275 v276 v277 v278 v279 v280 v281 v282 v283 v284 v285 v286 v287 v288 v289 v290 v291 v292 v293 v294 v295 v296 v297 v298 v299 v300 v301 v302 v303 v304 v305 v306 v307 v308 v309 v310 v311 v312 v313 v314 v315 v316 v317 v318 v319 v320 v321 v322 v323 v324 v325 v326 v327 v328 v329 v330 v331 v332 : Value) (wx : World), PHE w wx (4 + (N : Int)) P p (bd + 2) bd (bd + 1) (i + 1) v12 v13 → K1 ⟨#[.int .i64 (4 + (N : Int)), c1, .slice kq kn kc, c3, c4, c5, v6, .pointer (some ⟨p, 0, none⟩), c8, .pointer (some ⟨P, 0, none⟩), .pointer (some ⟨bd, 0, none⟩), .pointer (some ⟨bd + 1, 0, none⟩), v12, v13, .int .i64 (i : Int), .pointer (some ⟨bw, 0, none⟩), v16, v17, v18, v19, v20, v21, v22, v23, c24, c25, c26, c27, c28, c29, c30, c31, c32, c33, c34, c35, c36, c37, c38, c39, c40, c41, c42, c43, c44, c45, c46, c47, c48, c49, c50, c51, c52, c53, c54, v55, v56, v57, v58, v59, v60, v61, v62, v63, v64, v65, v66, v67, v68, v69, v70, v71, v72, v73, v74, v75, v76, v77, v78, v79, v80, v81, v82, v83, v84, v85, v86, v87, v88, v89, v90, v91, v92, v93, v94, v95, v96, v97, v98, v99, v100, v101, v102, v103, v104, v105, v106, v107, v108, v109, v110, v111, v112, v113, v114, v115, v116, v117, v118, v119, v120, v121, v122, v123, v124, v125, v126, v127, v128, v129, v130, v131, v132, v133, v134, v135, v136, v137, v138, v139, v140, v141, v142, v143, v144, v145, v146, v147, v148, v149, v150, v151, v152, v153, v154, v155, v156, v157, v158, v159, v160, v161, v162, v163, v164, v165, v166, v167, v168, v169, v170, v171, v172, v173, v174, v175, v176, v177, v178, v179, v180, v181, v182, v183, v184, v185, v186, v187, v188, v189, v190, v191, v192, v193, v194, v195, v196, v197, v198, v199, v200, v201, v202, v203, v204, v205, v206, v207, v208, v209, v210, v211, v212, v213, v214, v215, v216, v217, v218, v219, v220, v221, v222, v223, v224, v225, v226, v227, v228, v229, v230, v231, v232, v233, v234, v235, v236, v237, v238, v239, v240, v241, v242, v243, v244, v245, v246, v247, v248, v249, v250, v251, v252, v253, v254, v255, v256, v257, v258, v259, v260, v261, v262, v263, v264, v265, v266, v267, v268, v269, v270, v271, v272, v273, v274, v275, v276, v277, v278, v279, v280, v281, v282, v283, v284, v285, v286, v287, v288, v289, v290, v291, v292, v293, v294, v295, v296, v297, v298, v299, v300, v301, v302, v303, v304, v305, v306, v307, v308, v309, v310, v311, v312, v313, v314, v315, v316, v317, v318, v319, v320, v321, v322, v323, v324, v325, v326, v327, v328, v329, v330, v331, v332, c333, c334, c335, c336], []⟩ wx) (h78 : u78 = .int .i64 (1)) : Code.wp Tryd.prog swC (Exit.then K0 (Exit.inBlock 1 (Exit.then K1 (Exit.then K2 (Exit.inBlock 0 (Exit.then K3 (bodyPost Tryd.prog Tryd.f3 fun e w' => e = .returned (.bool true) ∧ Below w.heap.size w w'))))))) ⟨#[.int .i64 (4 + (N : Int)), c1, .slice kq kn kc, c3, c4, c5, u6, .pointer (some ⟨p, 0, none⟩), c8, .pointer (some ⟨P, 0, none⟩), .pointer (some ⟨bd, 0, none⟩), .pointer (some ⟨bd + 1, 0, none⟩), u12, u13, .int .i64 (i : Int), .pointer (some ⟨bw, 0, none⟩), u16, u17, u18, u19, u20, u21, u22, u23, c24, c25, c26, c27, c28, c29, c30, c31, c32, c33, c34, c35, c36, c37, c38, c39, c40, c41, c42, c43, c44, c45, c46, c47, c48, c49, c50, c51, c52, c53, c54, u55, u56, u57, u58, u59, u60, u61, u62, u63, u64, u65, u66, u67, u68, u69, u70, u71, u72, u73, u74, u75, u76, u77, u78, u79, u80, u81, u82, u83, u84, u85, u86, u87, u88, u89, u90, u91, u92, u93, u94, u95, u96, u97, u98, u99, u100, u101, u102, u103, u104, u105, u106, u107, u108, u109, u110, u111, u112, u113, u114, u115, u116, u117, u118, u119, u120, u121, u122, u123, u124, u125, u126, u127, u128, u129, u130, u131, u132, u133, u134, u135, u136, u137, u138, u139, u140, u141, u142, u143, u144, u145, u146, u147, u148, u149, u150, u151, u152, u153, u154, u155, u156, u157, u158, u159, u160, u161, u162, u163, u164, u165, u166, u167, u168, u169, u170, u171, u172, u173, u174, u175, u176, u177, u178, u179, u180, u181, u182, u183, u184, u185, u186, u187, u188, u189, u190, u191, u192, u193, u194, u195, u196, u197, u198, u199, u200, u201, u202, u203, u204, u205, u206, u207, u208, u209, u210, u211, u212, u213, u214, u215, u216, u217, u218, u219, u220, u221, u222, u223, u224, u225, u226, u227, u228, u229, u230, u231, u232, u233, u234, u235, u236, u237, u238, u239, u240, u241, u242, u243, u244, u245, u246, u247, u248, u249, u250, u251, u252, u253, u254, u255, u256, u257, u258, u259, u260, u261, u262, u263, u264, u265, u266, u267, u268, u269, u270, u271, u272, u273, u274, u275, u276, u277, u278, u279, u280, u281, u282, u283, u284, u285, u286, u287, u288, u289, u290, u291, u292, u293, u294, u295, u296, u297, u298, u299, u300, u301, u302, u303, u304, u305, u306, u307, u308, u309, u310, u311, u312, u313, u314, u315, u316, u317, u318, u319, u320, u321, u322, u323, u324, u325, u326, u327, u328, u329, u330, u331, u332, c333, c334, c335, c336], []⟩ w3 := by
  subst h78
  conv => arg 2; whnf
  obtain ⟨X, ⟨d1, d2, dr, dps⟩, ⟨a1, a2, ar, aps⟩, qs, gens, hP⟩ := HI3.out
  have hbx := hP.boxes
  have s0 : w3.cell? ⟨bd, 0, none⟩ = some d1 := hbx.1.1
  have s1 : w3.cell? ⟨bd, 1, none⟩ = some d2 := hbx.1.2.1
  have s2 : w3.cell? ⟨bd, 2, none⟩ = some (.int .i64 dr) := hbx.1.2.2
  have t0 : w3.cell? ⟨bd + 1, 0, none⟩ = some a1 := hbx.2.1.1
  have t1 : w3.cell? ⟨bd + 1, 1, none⟩ = some a2 := hbx.2.1.2.1
  have t2 : w3.cell? ⟨bd + 1, 2, none⟩ = some (.int .i64 ar) := hbx.2.1.2.2
  have hbdl : bd < w3.heap.size := hbx.2.2.1
  have hbnl : bd + 1 < w3.heap.size := hbx.2.2.2
  clear hbx
  obtain ⟨q1, n1, c1, hv1, hn1, hn1c, hn1d⟩ := (show OwnI w3 (bd + 2) d1 (pnos dps) from hP.h.ad.1).lie.form
  obtain ⟨q2, n2, c2, hv2, hn2, hn2c, hn2d⟩ := (show OwnS w3 (bd + 2) d2 (pstr dps) from hP.h.ad.2).lie.form
  obtain ⟨r1, m1, e1, hv3, hm1, hm1c, hm1d⟩ := (show OwnI w3 (bd + 2) a1 (pnos aps) from hP.h.an.1).lie.form
  obtain ⟨r2, m2, e2, hv4, hm2, hm2c, hm2d⟩ := (show OwnS w3 (bd + 2) a2 (pstr aps) from hP.h.an.2).lie.form
  subst hv1 hv2 hv3 hv4
  replace hn1 := Lib.hid hn1
  replace hn2 := Lib.hid hn2
  replace hm1 := Lib.hid hm1
  replace hm2 := Lib.hid hm2
  have hP3 := hP
  have hactb : w3.cell? ⟨bw, 0, none⟩ = some (.int .i64 1) := (Joins.cell_of_block HPB.out 0).trans rfl
  have hactk : w3.cell? ⟨bw, 1, none⟩ = some (.int .i64 kk) := (Joins.cell_of_block HPB.out 1).trans rfl
  have hactl : w3.cell? ⟨bw, 2, none⟩ = some (.slice bq bn bc) := (Joins.cell_of_block HPB.out 2).trans rfl
  have hbwl : bw < w3.heap.size := (Array.getElem?_eq_some_iff.1 HPB.out).1
  have f0 : ((1 : Int) == 0) = false := rfl
  have hl3 := hP.l
  dsimp only at hl3
  have hal : m1 = aps.length := by rw [hm1.out]; simp [pnos]
  have hal2 : m2 = aps.length := by rw [hm2.out]; simp [pstr]
  by_cases hq0 : m1 = 0
  · have HPN : Hid (PHE w w3 (4 + (N : Int)) P p (bd + 2) bd (bd + 1) (i + 1) u12 u13) := Lib.hid ⟨X, _, _, qs, gens, hP.up⟩
    have e0 : ((m1 : Int) == 0) = true := by rw [hq0]; rfl
    clear hP hP3 hq0 hal hal2
    try dsimp only
    go_wp2_with fail
    first | exact HPN.out | (apply hm1_; exact HPN.out)
  · have hqp : 0 < m1 := by omega
    obtain ⟨j, hjl, hwr, hjm⟩ := pick_any kk hqp (by omega)
    obtain ⟨pg, hpg⟩ : ∃ pg, aps[j]? = some pg := ⟨_, List.getElem?_eq_getElem (by omega)⟩
    obtain ⟨g1, rfl, hgg⟩ : ∃ g, r1 = some ⟨g, 0, none⟩ ∧ w3.cell? ⟨g, j, none⟩ = some (.int .i64 (pg.no : Int)) := by
      have ho := (show OwnI w3 (bd + 2) (.slice r1 m1 e1) (pnos aps) from hP.h.an.1)
      rcases ho.2 with ⟨h0, h1⟩ | ⟨g, cap, cur, hv, _⟩
      · injection h0 with _ h0 _
        omega
      · injection hv with h1 h2 h3
        refine ⟨g, h1, ?_⟩
        have h := ho.cells (g := g) (by rw [h1]; rfl) j (.int .i64 (pg.no : Int)) (by simp [i64s, pnos, hpg])
        rwa [Addr.add_lit, Nat.zero_add] at h
    obtain ⟨g2, rfl⟩ : ∃ g, r2 = some ⟨g, 0, none⟩ := by
      have ho := (show OwnS w3 (bd + 2) (.slice r2 m2 e2) (pstr aps) from hP.h.an.2)
      rcases ho.2 with ⟨h0, h1⟩ | ⟨g, cap, cur, hv, _⟩
      · injection h0 with _ h0 _
        omega
      · injection hv with h1 h2 h3
        exact ⟨g, h1⟩
    have HBD : Hid (Below w3.heap.size w3 w3.drew) := Lib.hid (Below.refl _ _).drew
    have HDR := Lib.hid (hc_drop (hP.c.on HBD.out) hpg)
    have HP := Lib.hid (hP.later HBD.out)
    have HP0 := Lib.hid hP
    have e0 : ((m1 : Int) == 0) = false := by rw [beq_eq_false_iff_ne]; omega
    have e0n : ¬ ((m1 : Int) = 0) := by omega
    have e0m : ¬ m1 = 0 := hq0
    have e0k : (m1 == 0) = false := by rw [beq_eq_false_iff_ne]; exact hq0
    have e0d : decide ((m1 : Int) = 0) = false := decide_eq_false e0n
    have e1' : (0 : Int) ≤ (j : Int) := by omega
    have e2' : (j : Int) < (m1 : Int) := by omega
    have hgl : g1 < w3.heap.size := World.block_lt_of_cell? _ _ hgg
    have HJL := Lib.hid hjl
    have HQ0 := Lib.hid hq0
    have HQP := Lib.hid hqp
    have HL3 := Lib.hid hl3
    have HAL := Lib.hid hal
    have HAL2 := Lib.hid hal2
    have HCX : Hid (∀ w', Below w3.heap.size w3 w' → (w'.cell? ⟨bd + 1, 0, none⟩ = some (.slice (some ⟨g1, 0, none⟩) m1 e1) ∧ w'.cell? ⟨bw, 1, none⟩ = some (.int .i64 kk))) := Lib.hid fun w' hb => ⟨(HP0.out.later hb).boxes.2.1.1, (hb.cell hbwl).trans hactk⟩
    clear hP hP3 hq0 hqp hl3 hal hal2 hpg
    try dsimp only
    go_wp2_with fail
    go_region_held3 (fun w' => w'.cell? ⟨bd + 1, 0, none⟩ = some (.slice (some ⟨g1, 0, none⟩) m1 e1) ∧ w'.cell? ⟨bw, 1, none⟩ = some (.int .i64 kk)) (exact HCX.out _ HBD.out) (fail)
    have hgg' : w3.drew.cell? ⟨g1, j, none⟩ = some (.int .i64 (pg.no : Int)) := hgg
    have t0' : w3.drew.cell? ⟨bd + 1, 0, none⟩ = some (.slice (some ⟨g1, 0, none⟩) m1 e1) := t0
    have hgl' : g1 < w3.drew.heap.size := hgl
    try dsimp only
    go_wp2_with fail
    refine HDR.out.mono ?_
    rintro e w6 ⟨rfl, hkp, Y, hY⟩
    have HM6 := Lib.hid (HP.out.h.keepsG hkp hkp.size)
    have HKP := Lib.hid hkp
    have HY := Lib.hid hY
    obtain ⟨A1, hA1, hAl1⟩ := lie_tail (show OwnI w6 (bd + 2) (.slice (some ⟨g1, 0, none⟩) m1 e1) (pnos aps) from HM6.out.an.1) hm1.out (k := j) (by omega)
    obtain ⟨A2, hA2, hAl2⟩ := lieS_tail (show OwnS w6 (bd + 2) (.slice (some ⟨g2, 0, none⟩) m2 e2) (pstr aps) from HM6.out.an.2) hm2.out (k := j) (by have := HAL.out; have := HAL2.out; omega)
    have HL1 := Lib.hid (lie_head (show OwnI w6 (bd + 2) (.slice (some ⟨g1, 0, none⟩) m1 e1) (pnos aps) from HM6.out.an.1) hm1.out (k := j) (by omega))
    have HL2 := Lib.hid (lieS_head (show OwnS w6 (bd + 2) (.slice (some ⟨g2, 0, none⟩) m2 e2) (pstr aps) from HM6.out.an.2) hm2.out (k := j) (by have := HAL.out; have := HAL2.out; omega))
    replace hAl1 := Lib.hid hAl1
    replace hAl2 := Lib.hid hAl2
    have hjm1 : j + 1 ≤ m1 := by omega
    have hjm2 : j + 1 ≤ m2 := by have := HAL.out; have := HAL2.out; omega
    have b0 : (0 : Int) ≤ (j : Int) + 1 := by omega
    have b1 : (j : Int) + 1 ≤ (m1 : Int) := by omega
    have b2 : (j : Int) + 1 ≤ (e1 : Int) := by omega
    have b3 : (j : Int) + 1 ≤ (m2 : Int) := by omega
    have b4 : (j : Int) + 1 ≤ (e2 : Int) := by omega
    have b5 : (j : Int) ≤ (m1 : Int) := by omega
    have b6 : (j : Int) ≤ (e1 : Int) := by omega
    have b7 : (j : Int) ≤ (m2 : Int) := by omega
    have b8 : (j : Int) ≤ (e2 : Int) := by omega
    have n1' : j ≤ m1 := by omega
    have n2' : j ≤ e1 := by omega
    have n3' : j ≤ m2 := by omega
    have n4' : j ≤ e2 := by omega
    have n6' : j + 1 ≤ e1 := by omega
    have n8' : j + 1 ≤ e2 := by omega
    have hw1 : IntKind.i64.wrap ((j : Int) + 1) = (j : Int) + 1 := by rw [IntKind.wrap_i64]; omega
    have HLL : Hid ((pnos aps).length ≤ 1000) := Lib.hid (by have := HL3.out; simp [pnos]; omega)
    have HLM : Hid ((pstr aps).length ≤ 1000) := Lib.hid (by have := HL3.out; simp [pstr]; omega)
    have HY6 : Hid (∀ w', Below w6.heap.size w6 w' → w'.heap[bd + 1]? = some (.cells #[.slice (some ⟨g1, 0, none⟩) m1 e1, .slice (some ⟨g2, 0, none⟩) m2 e2, .int .i64 ar] 35 (0, 0))) := Lib.hid fun w' hb => (HM6.out.below hb).hn
    have HBX : Hid (∀ w', Below w6.heap.size w6 w' → (w'.cell? ⟨bd + 1, 0, none⟩ = some (.slice (some ⟨g1, 0, none⟩) m1 e1) ∧ w'.cell? ⟨bd + 1, 1, none⟩ = some (.slice (some ⟨g2, 0, none⟩) m2 e2))) := Lib.hid fun w' hb => ⟨(Joins.cell_of_block (HY6.out w' hb) 0).trans rfl, (Joins.cell_of_block (HY6.out w' hb) 1).trans rfl⟩
    have HFIN : Hid (∀ (cur : World) (v1 v2 : Value), Below w6.heap.size w6 cur → OwnI cur w6.heap.size v1 ((pnos aps).take j ++ (pnos aps).drop (j + 1)) → OwnS cur w6.heap.size v2 ((pstr aps).take j ++ (pstr aps).drop (j + 1)) → PHE w (cur.setRow (bd + 1) #[v1, v2, .int .i64 0]) (4 + (N : Int)) P p (bd + 2) bd (bd + 1) (i + 1) u12 u13) := Lib.hid fun cur v1 v2 hb ho1 ho2 => by
      have hm := HM6.out
      rw [← List.eraseIdx_eq_take_drop_succ] at ho1 ho2
      have ho1' : OwnI cur w6.heap.size v1 (pnos (aps.eraseIdx j)) := by
        rw [show pnos (aps.eraseIdx j) = (pnos aps).eraseIdx j by simp only [pnos, List.eraseIdx_eq_take_drop_succ, List.map_append, List.map_take, List.map_drop]]; exact ho1
      have ho2' : OwnS cur w6.heap.size v2 (pstr (aps.eraseIdx j)) := by
        rw [show pstr (aps.eraseIdx j) = (pstr aps).eraseIdx j by simp only [pstr, List.eraseIdx_eq_take_drop_succ, List.map_append, List.map_take, List.map_drop]]; exact ho2
      exact ⟨Y, _, ⟨v1, v2, 0, aps.eraseIdx j⟩, qs, gens, HP.out.callNow (s := ⟨v1, v2, 0, aps.eraseIdx j⟩) HKP.out hb HY.out ⟨Joins.ownsRow_le ho1' hm.lt.2.2.2, Joins.ownsRow_le ho2' hm.lt.2.2.2⟩ ⟨(off_new (B' := 0) hm.ad.1 ho1').1, (off_new (B' := 0) hm.ad.2 ho2').1⟩ (fun q hq => ⟨(off_new (B' := 0) (hm.aq q hq).1 ho1').1, (off_new (B' := 0) (hm.aq q hq).2 ho2').1⟩) ⟨(off_new (B' := 0) hm.ig ho1').2, (off_new (B' := 0) hm.ig ho1').1⟩ (by show (aps.eraseIdx j).length ≤ i + 1; have := List.length_eraseIdx_le aps j; have := HL3.out; omega)⟩
    clear hkp hY t0 t0' t1 s0 s1 s2 t2 hgg hgg' hgl hgl' hjm hwr hjl
    try dsimp only
    go_wp2_with fail
    refine wp_region_last_drew (S := fun w' => w'.cell? ⟨bd + 1, 0, none⟩ = some (.slice (some ⟨g1, 0, none⟩) m1 e1) ∧ w'.cell? ⟨bd + 1, 1, none⟩ = some (.slice (some ⟨g2, 0, none⟩) m2 e2)) [25] (by kernel_rfl) (HBX.out _ (Below.drew (Below.refl _ _))) (fun hHeld => ?_)
    refine wpAnyL_take (i := 1) (v := ?_) rfl (by kernel_rfl) (by kernel_rfl) (by kernel_rfl) (by kernel_rfl) (fun _ _ _ h => h) (Or.inl ⟨by rfl, ?_⟩) (by assumption) ?_
    rotate_left
    · intro w hSw; (try dsimp only at hSw); go_simp; try with_reducible rfl
    simp only [Act.put, List.getElem_toArray, List.getElem_cons_zero, List.getElem_cons_succ, List.setIfInBounds_toArray, List.set_cons_zero, List.set_cons_succ]
    refine wpAnyL_take (i := 2) (v := ?_) rfl (by kernel_rfl) (by kernel_rfl) (by kernel_rfl) (by kernel_rfl) (fun _ _ _ h => h) (Or.inl ⟨by rfl, ?_⟩) (by assumption) ?_
    rotate_left
    · intro w hSw; (try dsimp only at hSw); go_simp; try with_reducible rfl
    simp only [Act.put, List.getElem_toArray, List.getElem_cons_zero, List.getElem_cons_succ, List.setIfInBounds_toArray, List.set_cons_zero, List.set_cons_succ]
    refine wpAnyL_take (i := 3) (v := ?_) rfl (by kernel_rfl) (by kernel_rfl) (by kernel_rfl) (by kernel_rfl) (fun _ _ _ h => h) (Or.inl ⟨by rfl, ?_⟩) (by assumption) ?_
    rotate_left
    · intro w hSw; (try dsimp only at hSw); go_simp; try with_reducible rfl
    simp only [Act.put, List.getElem_toArray, List.getElem_cons_zero, List.getElem_cons_succ, List.setIfInBounds_toArray, List.set_cons_zero, List.set_cons_succ]
    refine wpAnyL_take (i := 4) (v := ?_) rfl (by kernel_rfl) (by kernel_rfl) (by kernel_rfl) (by kernel_rfl) (fun _ _ _ h => h) (Or.inl ⟨by rfl, ?_⟩) (by assumption) ?_
    rotate_left
    · intro w hSw; (try dsimp only at hSw); go_simp; try with_reducible rfl
    simp only [Act.put, List.getElem_toArray, List.getElem_cons_zero, List.getElem_cons_succ, List.setIfInBounds_toArray, List.set_cons_zero, List.set_cons_succ]
    refine wpAnyL_take (i := 6) (v := ?_) rfl (by kernel_rfl) (by kernel_rfl) (by kernel_rfl) (by kernel_rfl) (fun _ _ _ h => h) (Or.inl ⟨by rfl, ?_⟩) (by assumption) ?_
    rotate_left
    · intro w hSw; (try dsimp only at hSw); go_simp; try with_reducible rfl
    simp only [Act.put, List.getElem_toArray, List.getElem_cons_zero, List.getElem_cons_succ, List.setIfInBounds_toArray, List.set_cons_zero, List.set_cons_succ]
    refine wpAnyL_take (i := 7) (v := ?_) rfl (by kernel_rfl) (by kernel_rfl) (by kernel_rfl) (by kernel_rfl) (fun _ _ _ h => h) (Or.inl ⟨by rfl, ?_⟩) (by assumption) ?_
    rotate_left
    · intro w hSw; (try dsimp only at hSw); go_simp; try with_reducible rfl
    simp only [Act.put, List.getElem_toArray, List.getElem_cons_zero, List.getElem_cons_succ, List.setIfInBounds_toArray, List.set_cons_zero, List.set_cons_succ]
    refine wpAnyL_take (i := 8) (v := ?_) rfl (by kernel_rfl) (by kernel_rfl) (by kernel_rfl) (by kernel_rfl) (fun _ _ _ h => h) (Or.inl ⟨by rfl, ?_⟩) (by assumption) ?_
    rotate_left
    · intro w hSw; (try dsimp only at hSw); go_simp; try with_reducible rfl
    simp only [Act.put, List.getElem_toArray, List.getElem_cons_zero, List.getElem_cons_succ, List.setIfInBounds_toArray, List.set_cons_zero, List.set_cons_succ]
    refine wpAnyL_take (i := 9) (v := ?_) rfl (by kernel_rfl) (by kernel_rfl) (by kernel_rfl) (by kernel_rfl) (fun _ _ _ h => h) (Or.inl ⟨by rfl, ?_⟩) (by assumption) ?_
    rotate_left
    · intro w hSw; (try dsimp only at hSw); go_simp; try with_reducible rfl
    simp only [Act.put, List.getElem_toArray, List.getElem_cons_zero, List.getElem_cons_succ, List.setIfInBounds_toArray, List.set_cons_zero, List.set_cons_succ]
    refine wpAnyL_take (i := 10) (v := ?_) rfl (by kernel_rfl) (by kernel_rfl) (by kernel_rfl) (by kernel_rfl) (fun _ _ _ h => h) (Or.inl ⟨by rfl, ?_⟩) (by assumption) ?_
    rotate_left
    · intro w hSw; (try dsimp only at hSw); go_simp; try with_reducible rfl
    simp only [Act.put, List.getElem_toArray, List.getElem_cons_zero, List.getElem_cons_succ, List.setIfInBounds_toArray, List.set_cons_zero, List.set_cons_succ]
    refine wpAnyL_take (i := 13) (v := ?_) rfl (by kernel_rfl) (by kernel_rfl) (by kernel_rfl) (by kernel_rfl) (fun _ _ _ h => h) (Or.inl ⟨by rfl, ?_⟩) (by assumption) ?_
    rotate_left
    · intro w hSw; (try dsimp only at hSw); go_simp; try with_reducible rfl
    simp only [Act.put, List.getElem_toArray, List.getElem_cons_zero, List.getElem_cons_succ, List.setIfInBounds_toArray, List.set_cons_zero, List.set_cons_succ]
    refine wpAnyL_take (i := 14) (v := ?_) rfl (by kernel_rfl) (by kernel_rfl) (by kernel_rfl) (by kernel_rfl) (fun _ _ _ h => h) (Or.inl ⟨by rfl, ?_⟩) (by assumption) ?_
    rotate_left
    · intro w hSw; (try dsimp only at hSw); go_simp; try with_reducible rfl
    simp only [Act.put, List.getElem_toArray, List.getElem_cons_zero, List.getElem_cons_succ, List.setIfInBounds_toArray, List.set_cons_zero, List.set_cons_succ]
    refine wpAnyL_take (i := 15) (v := ?_) rfl (by kernel_rfl) (by kernel_rfl) (by kernel_rfl) (by kernel_rfl) (fun _ _ _ h => h) (Or.inl ⟨by rfl, ?_⟩) (by assumption) ?_
    rotate_left
    · intro w hSw; (try dsimp only at hSw); go_simp; try with_reducible rfl
    simp only [Act.put, List.getElem_toArray, List.getElem_cons_zero, List.getElem_cons_succ, List.setIfInBounds_toArray, List.set_cons_zero, List.set_cons_succ]
    refine wpAnyL_take (i := 16) (v := ?_) rfl (by kernel_rfl) (by kernel_rfl) (by kernel_rfl) (by kernel_rfl) (fun _ _ _ h => h) (Or.inl ⟨by rfl, ?_⟩) (by assumption) ?_
    rotate_left
    · intro w hSw; (try dsimp only at hSw); go_simp; try with_reducible rfl
    simp only [Act.put, List.getElem_toArray, List.getElem_cons_zero, List.getElem_cons_succ, List.setIfInBounds_toArray, List.set_cons_zero, List.set_cons_succ]
    refine wpAnyL_take (i := 18) (v := ?_) rfl (by kernel_rfl) (by kernel_rfl) (by kernel_rfl) (by kernel_rfl) (fun _ _ _ h => h) (Or.inl ⟨by rfl, ?_⟩) (by assumption) ?_
    rotate_left
    · intro w hSw; (try dsimp only at hSw); go_simp; try with_reducible rfl
    simp only [Act.put, List.getElem_toArray, List.getElem_cons_zero, List.getElem_cons_succ, List.setIfInBounds_toArray, List.set_cons_zero, List.set_cons_succ]
    refine wpAnyL_take (i := 19) (v := ?_) rfl (by kernel_rfl) (by kernel_rfl) (by kernel_rfl) (by kernel_rfl) (fun _ _ _ h => h) (Or.inl ⟨by rfl, ?_⟩) (by assumption) ?_
    rotate_left
    · intro w hSw; (try dsimp only at hSw); go_simp; try with_reducible rfl
    simp only [Act.put, List.getElem_toArray, List.getElem_cons_zero, List.getElem_cons_succ, List.setIfInBounds_toArray, List.set_cons_zero, List.set_cons_succ]
    refine wpAnyL_take (i := 20) (v := ?_) rfl (by kernel_rfl) (by kernel_rfl) (by kernel_rfl) (by kernel_rfl) (fun _ _ _ h => h) (Or.inl ⟨by rfl, ?_⟩) (by assumption) ?_
    rotate_left
    · intro w hSw; (try dsimp only at hSw); go_simp; try with_reducible rfl
    simp only [Act.put, List.getElem_toArray, List.getElem_cons_zero, List.getElem_cons_succ, List.setIfInBounds_toArray, List.set_cons_zero, List.set_cons_succ]
    refine wpAnyL_take (i := 21) (v := ?_) rfl (by kernel_rfl) (by kernel_rfl) (by kernel_rfl) (by kernel_rfl) (fun _ _ _ h => h) (Or.inl ⟨by rfl, ?_⟩) (by assumption) ?_
    rotate_left
    · intro w hSw; (try dsimp only at hSw); go_simp; try with_reducible rfl
    simp only [Act.put, List.getElem_toArray, List.getElem_cons_zero, List.getElem_cons_succ, List.setIfInBounds_toArray, List.set_cons_zero, List.set_cons_succ]
    refine wpAnyL_take (i := 22) (v := ?_) rfl (by kernel_rfl) (by kernel_rfl) (by kernel_rfl) (by kernel_rfl) (fun _ _ _ h => h) (Or.inl ⟨by rfl, ?_⟩) (by assumption) ?_
    rotate_left
    · intro w hSw; (try dsimp only at hSw); go_simp; try with_reducible rfl
    simp only [Act.put, List.getElem_toArray, List.getElem_cons_zero, List.getElem_cons_succ, List.setIfInBounds_toArray, List.set_cons_zero, List.set_cons_succ]
    obtain ⟨u, hu⟩ : ∃ u, u = w6.drew := ⟨_, rfl⟩
    have HU : Hid (Below w6.heap.size w6 u) := Lib.hid (by rw [hu]; exact Below.drew (Below.refl _ _))
    rw [← hu] at hHeld ⊢
    clear hu
    refine wpAnyL_ready (rs := [0, 12]) (by kernel_rfl) (by simp) ?_
    refine AllReadyL.cons rfl (fun K hK => ?_) (AllReadyL.cons rfl (fun K hK => ?_) AllReadyL.nil)
    · skip
      go_simp
      try dsimp only
      obtain ⟨u1_, hu1_⟩ : ∃ u1_, u1_ = u.alloc (.cells #[] 3) := ⟨_, rfl⟩
      rw [← hu1_]
      have HU1_ : Hid (Below w6.heap.size w6 u1_) := Lib.hid (by rw [hu1_]; exact HU.out.alloc HU.out.size _)
      have HO1 : Hid (OwnI u1_ w6.heap.size (.slice (some ⟨u.heap.size, 0, none⟩) 0 0) []) := Lib.hid (by rw [hu1_]; exact OwnI.made HU.out.size)
      clear hu1_
      refine hK.out _ _ (fun _ => HBX.out _ HU1_.out) (fun hHeld => ?_)
      replace hHeld := hHeld rfl
      clear hK K
      try simp only [Act.put, List.getElem_toArray, List.getElem_cons_zero, List.getElem_cons_succ, List.setIfInBounds_toArray, List.set_cons_zero, List.set_cons_succ]
      refine wpAnyL_ready (rs := [5, 12]) (by kernel_rfl) (by simp) ?_
      refine AllReadyL.cons rfl (fun K hK => ?_) (AllReadyL.cons rfl (fun K hK => ?_) AllReadyL.nil)
      · skip
        refine step_appI (B := w6.heap.size) (C := w6.heap.size) (v := (.slice (some ⟨u.heap.size, 0, none⟩) 0 0)) (l := []) (m := (pnos aps).take j) (q := some ⟨g1, 0, none⟩) (n := j) (c := e1) rfl (.tmp 138) (.tmp 142) rfl (by kernel_rfl) HO1.out (by kernel_rfl) (HL1.out.stay (Stay.below HU1_.out)) (by have := HLL.out; simp only [List.length_take, List.length_drop, List.length_nil]; omega) HU1_.out.size ?_
        intro v2_ u2_ ho hg
        rw [List.nil_append] at ho
        have HU2_ : Hid (Below w6.heap.size w6 u2_) := Lib.hid (HU1_.out.grown hg HU1_.out.size fun k hk => (World.ownsRow.lt HO1.out k hk).1)
        have HO2 := Lib.hid ho
        clear ho hg
        refine hK.out _ _ (fun _ => HBX.out _ HU2_.out) (fun hHeld => ?_)
        replace hHeld := hHeld rfl
        clear hK K
        try simp only [Act.put, List.getElem_toArray, List.getElem_cons_zero, List.getElem_cons_succ, List.setIfInBounds_toArray, List.set_cons_zero, List.set_cons_succ]
        refine wpAnyL_ready (rs := [11, 12]) (by kernel_rfl) (by simp) ?_
        refine AllReadyL.cons rfl (fun K hK => ?_) (AllReadyL.cons rfl (fun K hK => ?_) AllReadyL.nil)
        · skip
          refine step_appI (B := w6.heap.size) (C := w6.heap.size) (v := v2_) (l := ((pnos aps).take j)) (m := (pnos aps).drop (j + 1)) (q := some A1) (n := m1 - (j + 1)) (c := e1 - (j + 1)) rfl (.tmp 143) (.tmp 148) rfl (by kernel_rfl) HO2.out (by kernel_rfl) (hAl1.out.stay (Stay.below HU2_.out)) (by have := HLL.out; simp only [List.length_take, List.length_drop, List.length_nil]; omega) HU2_.out.size ?_
          intro v3_ u3_ ho hg
          have HU3_ : Hid (Below w6.heap.size w6 u3_) := Lib.hid (HU2_.out.grown hg HU2_.out.size fun k hk => (World.ownsRow.lt HO2.out k hk).1)
          have HO3 := Lib.hid ho
          clear ho hg
          refine hK.out _ _ (fun _ => HBX.out _ HU3_.out) (fun hHeld => ?_)
          replace hHeld := hHeld rfl
          clear hK K
          try simp only [Act.put, List.getElem_toArray, List.getElem_cons_zero, List.getElem_cons_succ, List.setIfInBounds_toArray, List.set_cons_zero, List.set_cons_succ]
          refine wpAnyL_ready (rs := [12]) (by kernel_rfl) (by simp) ?_
          refine AllReadyL.cons rfl (fun K hK => ?_) AllReadyL.nil
          go_simp
          try dsimp only
          obtain ⟨u4_, hu4_⟩ : ∃ u4_, u4_ = u3_.alloc (.cells #[] 9) := ⟨_, rfl⟩
          rw [← hu4_]
          have HU4_ : Hid (Below w6.heap.size w6 u4_) := Lib.hid (by rw [hu4_]; exact HU3_.out.alloc HU3_.out.size _)
          have HO4 : Hid (OwnS u4_ w6.heap.size (.slice (some ⟨u3_.heap.size, 0, none⟩) 0 0) []) := Lib.hid (by rw [hu4_]; exact OwnS.made HU3_.out.size)
          have HQ4 : Hid (OwnI u4_ w6.heap.size v3_ ((pnos aps).take j ++ (pnos aps).drop (j + 1))) := Lib.hid (by rw [hu4_]; exact HO3.out.below (sbox1 _ _))
          clear hu4_
          refine hK.out _ _ (fun _ => HBX.out _ HU4_.out) (fun hHeld => ?_)
          replace hHeld := hHeld rfl
          clear hK K
          try simp only [Act.put, List.getElem_toArray, List.getElem_cons_zero, List.getElem_cons_succ, List.setIfInBounds_toArray, List.set_cons_zero, List.set_cons_succ]
          refine wpAnyL_ready (rs := [17]) (by kernel_rfl) (by simp) ?_
          refine AllReadyL.cons rfl (fun K hK => ?_) AllReadyL.nil
          refine step_appS (B := w6.heap.size) (C := w6.heap.size) (v := (.slice (some ⟨u3_.heap.size, 0, none⟩) 0 0)) (l := []) (m := (pstr aps).take j) (q := some ⟨g2, 0, none⟩) (n := j) (c := e2) rfl (.tmp 150) (.tmp 154) rfl (by kernel_rfl) HO4.out (by kernel_rfl) (HL2.out.stay (Stay.below HU4_.out)) (by have := HLM.out; simp only [List.length_take, List.length_drop, List.length_nil]; omega) HU4_.out.size ?_
          intro v5_ u5_ ho hg
          rw [List.nil_append] at ho
          have HU5_ : Hid (Below w6.heap.size w6 u5_) := Lib.hid (HU4_.out.grown hg HU4_.out.size fun k hk => (World.ownsRow.lt HO4.out k hk).1)
          have HO5 := Lib.hid ho
          have HQ5 : Hid (OwnI u5_ w6.heap.size v3_ ((pnos aps).take j ++ (pnos aps).drop (j + 1))) := Lib.hid (HQ4.out.kept hg (own_apart HQ4.out HO4.out (by decide)))
          clear ho hg
          refine hK.out _ _ (fun _ => HBX.out _ HU5_.out) (fun hHeld => ?_)
          replace hHeld := hHeld rfl
          clear hK K
          try simp only [Act.put, List.getElem_toArray, List.getElem_cons_zero, List.getElem_cons_succ, List.setIfInBounds_toArray, List.set_cons_zero, List.set_cons_succ]
          refine wpAnyL_ready (rs := [23]) (by kernel_rfl) (by simp) ?_
          refine AllReadyL.cons rfl (fun K hK => ?_) AllReadyL.nil
          refine step_appS (B := w6.heap.size) (C := w6.heap.size) (v := v5_) (l := ((pstr aps).take j)) (m := (pstr aps).drop (j + 1)) (q := some A2) (n := m2 - (j + 1)) (c := e2 - (j + 1)) rfl (.tmp 155) (.tmp 160) rfl (by kernel_rfl) HO5.out (by kernel_rfl) (hAl2.out.stay (Stay.below HU5_.out)) (by have := HLM.out; simp only [List.length_take, List.length_drop, List.length_nil]; omega) HU5_.out.size ?_
          intro v6_ u6_ ho hg
          have HU6_ : Hid (Below w6.heap.size w6 u6_) := Lib.hid (HU5_.out.grown hg HU5_.out.size fun k hk => (World.ownsRow.lt HO5.out k hk).1)
          have HO6 := Lib.hid ho
          have HQ6 : Hid (OwnI u6_ w6.heap.size v3_ ((pnos aps).take j ++ (pnos aps).drop (j + 1))) := Lib.hid (HQ5.out.kept hg (own_apart HQ5.out HO5.out (by decide)))
          clear ho hg
          refine hK.out _ _ (fun _ => HBX.out _ HU6_.out) (fun hHeld => ?_)
          replace hHeld := hHeld rfl
          clear hK K
          try simp only [Act.put, List.getElem_toArray, List.getElem_cons_zero, List.getElem_cons_succ, List.setIfInBounds_toArray, List.set_cons_zero, List.set_cons_succ]
          have HF := Lib.hid (HFIN.out u6_ _ _ HU6_.out HQ6.out HO6.out)
          obtain ⟨p1, d1, hp1, _⟩ := HQ6.out.lie
          obtain ⟨p2, d2, hp2, _⟩ := HO6.out.lie
          obtain ⟨z1, hz1⟩ : ∃ z, z = ((pnos aps).take j ++ (pnos aps).drop (j + 1)).length := ⟨_, rfl⟩
          obtain ⟨z2, hz2⟩ : ∃ z, z = ((pstr aps).take j ++ (pstr aps).drop (j + 1)).length := ⟨_, rfl⟩
          rw [← hz1] at hp1
          rw [← hz2] at hp2
          subst hp1 hp2
          clear hz1 hz2
          refine wpAnyL_take (i := 24) (v := ?_) rfl (by kernel_rfl) (by kernel_rfl) (by kernel_rfl) (by kernel_rfl) (fun _ _ _ h => h) (Or.inl ⟨by rfl, ?_⟩) (by assumption) ?_
          rotate_left
          · intro w hSw; (try dsimp only at hSw); go_simp; try with_reducible rfl
          simp only [Act.put, List.getElem_toArray, List.getElem_cons_zero, List.getElem_cons_succ, List.setIfInBounds_toArray, List.set_cons_zero, List.set_cons_succ]
          refine wpAnyL_ready (rs := [25]) (by kernel_rfl) (by simp) ?_
          refine AllReadyL.cons rfl (fun K hK => ?_) AllReadyL.nil
          refine step_store_row rfl 35 (.tmp 11) (.tmp 162) rfl (bd + 1) #[.slice p1 z1 d1, .slice p2 z2 d2, .int .i64 0] (by kernel_rfl) (by kernel_rfl) 35 _ (HY6.out _ HU6_.out) (by kernel_rfl) (by rfl) (by simp [Value.oneCell']) ?_
          obtain ⟨x, hx⟩ : ∃ x, x = u6_.setRow (bd + 1) #[.slice p1 z1 d1, .slice p2 z2 d2, .int .i64 0] := ⟨_, rfl⟩
          rw [← hx] at HF ⊢
          refine hK.out _ _ (fun h => absurd h (by decide)) (fun hHeld => ?_)
          clear hK K
          try simp only [Act.put, List.getElem_toArray, List.getElem_cons_zero, List.getElem_cons_succ]
          refine wpAnyL_done (by kernel_rfl) ?_ _
          clear hx
          try dsimp only
          go_wp2_with fail
          first | exact HF.out | (apply hm; exact HF.out)
        · skip
          go_simp
          try dsimp only
          obtain ⟨u7_, hu7_⟩ : ∃ u7_, u7_ = u2_.alloc (.cells #[] 9) := ⟨_, rfl⟩
          rw [← hu7_]
          have HU7_ : Hid (Below w6.heap.size w6 u7_) := Lib.hid (by rw [hu7_]; exact HU2_.out.alloc HU2_.out.size _)
          have HO7 : Hid (OwnS u7_ w6.heap.size (.slice (some ⟨u2_.heap.size, 0, none⟩) 0 0) []) := Lib.hid (by rw [hu7_]; exact OwnS.made HU2_.out.size)
          have HQ7 : Hid (OwnI u7_ w6.heap.size v2_ ((pnos aps).take j)) := Lib.hid (by rw [hu7_]; exact HO2.out.below (sbox1 _ _))
          clear hu7_
          refine hK.out _ _ (fun _ => HBX.out _ HU7_.out) (fun hHeld => ?_)
          replace hHeld := hHeld rfl
          clear hK K
          try simp only [Act.put, List.getElem_toArray, List.getElem_cons_zero, List.getElem_cons_succ, List.setIfInBounds_toArray, List.set_cons_zero, List.set_cons_succ]
          refine wpAnyL_ready (rs := [11]) (by kernel_rfl) (by simp) ?_
          refine AllReadyL.cons rfl (fun K hK => ?_) AllReadyL.nil
          refine step_appI (B := w6.heap.size) (C := w6.heap.size) (v := v2_) (l := ((pnos aps).take j)) (m := (pnos aps).drop (j + 1)) (q := some A1) (n := m1 - (j + 1)) (c := e1 - (j + 1)) rfl (.tmp 143) (.tmp 148) rfl (by kernel_rfl) HQ7.out (by kernel_rfl) (hAl1.out.stay (Stay.below HU7_.out)) (by have := HLL.out; simp only [List.length_take, List.length_drop, List.length_nil]; omega) HU7_.out.size ?_
          intro v8_ u8_ ho hg
          have HU8_ : Hid (Below w6.heap.size w6 u8_) := Lib.hid (HU7_.out.grown hg HU7_.out.size fun k hk => (World.ownsRow.lt HQ7.out k hk).1)
          have HO8 := Lib.hid ho
          have HQ8 : Hid (OwnS u8_ w6.heap.size (.slice (some ⟨u2_.heap.size, 0, none⟩) 0 0) []) := Lib.hid (HO7.out.kept hg (own_apart HO7.out HQ7.out (by decide)))
          clear ho hg
          refine hK.out _ _ (fun _ => HBX.out _ HU8_.out) (fun hHeld => ?_)
          replace hHeld := hHeld rfl
          clear hK K
          try simp only [Act.put, List.getElem_toArray, List.getElem_cons_zero, List.getElem_cons_succ, List.setIfInBounds_toArray, List.set_cons_zero, List.set_cons_succ]
          refine wpAnyL_ready (rs := [17]) (by kernel_rfl) (by simp) ?_
          refine AllReadyL.cons rfl (fun K hK => ?_) AllReadyL.nil
          refine step_appS (B := w6.heap.size) (C := w6.heap.size) (v := (.slice (some ⟨u2_.heap.size, 0, none⟩) 0 0)) (l := []) (m := (pstr aps).take j) (q := some ⟨g2, 0, none⟩) (n := j) (c := e2) rfl (.tmp 150) (.tmp 154) rfl (by kernel_rfl) HQ8.out (by kernel_rfl) (HL2.out.stay (Stay.below HU8_.out)) (by have := HLM.out; simp only [List.length_take, List.length_drop, List.length_nil]; omega) HU8_.out.size ?_
          intro v9_ u9_ ho hg
          rw [List.nil_append] at ho
          have HU9_ : Hid (Below w6.heap.size w6 u9_) := Lib.hid (HU8_.out.grown hg HU8_.out.size fun k hk => (World.ownsRow.lt HQ8.out k hk).1)
          have HO9 := Lib.hid ho
          have HQ9 : Hid (OwnI u9_ w6.heap.size v8_ ((pnos aps).take j ++ (pnos aps).drop (j + 1))) := Lib.hid (HO8.out.kept hg (own_apart HO8.out HQ8.out (by decide)))
          clear ho hg
          refine hK.out _ _ (fun _ => HBX.out _ HU9_.out) (fun hHeld => ?_)
          replace hHeld := hHeld rfl
          clear hK K
          try simp only [Act.put, List.getElem_toArray, List.getElem_cons_zero, List.getElem_cons_succ, List.setIfInBounds_toArray, List.set_cons_zero, List.set_cons_succ]
          refine wpAnyL_ready (rs := [23]) (by kernel_rfl) (by simp) ?_
          refine AllReadyL.cons rfl (fun K hK => ?_) AllReadyL.nil
          refine step_appS (B := w6.heap.size) (C := w6.heap.size) (v := v9_) (l := ((pstr aps).take j)) (m := (pstr aps).drop (j + 1)) (q := some A2) (n := m2 - (j + 1)) (c := e2 - (j + 1)) rfl (.tmp 155) (.tmp 160) rfl (by kernel_rfl) HO9.out (by kernel_rfl) (hAl2.out.stay (Stay.below HU9_.out)) (by have := HLM.out; simp only [List.length_take, List.length_drop, List.length_nil]; omega) HU9_.out.size ?_
          intro v10_ u10_ ho hg
          have HU10_ : Hid (Below w6.heap.size w6 u10_) := Lib.hid (HU9_.out.grown hg HU9_.out.size fun k hk => (World.ownsRow.lt HO9.out k hk).1)
          have HO10 := Lib.hid ho
          have HQ10 : Hid (OwnI u10_ w6.heap.size v8_ ((pnos aps).take j ++ (pnos aps).drop (j + 1))) := Lib.hid (HQ9.out.kept hg (own_apart HQ9.out HO9.out (by decide)))
          clear ho hg
          refine hK.out _ _ (fun _ => HBX.out _ HU10_.out) (fun hHeld => ?_)
          replace hHeld := hHeld rfl
          clear hK K
          try simp only [Act.put, List.getElem_toArray, List.getElem_cons_zero, List.getElem_cons_succ, List.setIfInBounds_toArray, List.set_cons_zero, List.set_cons_succ]
          have HF := Lib.hid (HFIN.out u10_ _ _ HU10_.out HQ10.out HO10.out)
          obtain ⟨p1, d1, hp1, _⟩ := HQ10.out.lie
          obtain ⟨p2, d2, hp2, _⟩ := HO10.out.lie
          obtain ⟨z1, hz1⟩ : ∃ z, z = ((pnos aps).take j ++ (pnos aps).drop (j + 1)).length := ⟨_, rfl⟩
          obtain ⟨z2, hz2⟩ : ∃ z, z = ((pstr aps).take j ++ (pstr aps).drop (j + 1)).length := ⟨_, rfl⟩
          rw [← hz1] at hp1
          rw [← hz2] at hp2
          subst hp1 hp2
          clear hz1 hz2
          refine wpAnyL_take (i := 24) (v := ?_) rfl (by kernel_rfl) (by kernel_rfl) (by kernel_rfl) (by kernel_rfl) (fun _ _ _ h => h) (Or.inl ⟨by rfl, ?_⟩) (by assumption) ?_
          rotate_left
          · intro w hSw; (try dsimp only at hSw); go_simp; try with_reducible rfl
          simp only [Act.put, List.getElem_toArray, List.getElem_cons_zero, List.getElem_cons_succ, List.setIfInBounds_toArray, List.set_cons_zero, List.set_cons_succ]
          refine wpAnyL_ready (rs := [25]) (by kernel_rfl) (by simp) ?_
          refine AllReadyL.cons rfl (fun K hK => ?_) AllReadyL.nil
          refine step_store_row rfl 35 (.tmp 11) (.tmp 162) rfl (bd + 1) #[.slice p1 z1 d1, .slice p2 z2 d2, .int .i64 0] (by kernel_rfl) (by kernel_rfl) 35 _ (HY6.out _ HU10_.out) (by kernel_rfl) (by rfl) (by simp [Value.oneCell']) ?_
          obtain ⟨x, hx⟩ : ∃ x, x = u10_.setRow (bd + 1) #[.slice p1 z1 d1, .slice p2 z2 d2, .int .i64 0] := ⟨_, rfl⟩
          rw [← hx] at HF ⊢
          refine hK.out _ _ (fun h => absurd h (by decide)) (fun hHeld => ?_)
          clear hK K
          try simp only [Act.put, List.getElem_toArray, List.getElem_cons_zero, List.getElem_cons_succ]
          refine wpAnyL_done (by kernel_rfl) ?_ _
          clear hx
          try dsimp only
          go_wp2_with fail
          first | exact HF.out | (apply hm; exact HF.out)
      · skip
        go_simp
        try dsimp only
        obtain ⟨u11_, hu11_⟩ : ∃ u11_, u11_ = u1_.alloc (.cells #[] 9) := ⟨_, rfl⟩
        rw [← hu11_]
        have HU11_ : Hid (Below w6.heap.size w6 u11_) := Lib.hid (by rw [hu11_]; exact HU1_.out.alloc HU1_.out.size _)
        have HO11 : Hid (OwnS u11_ w6.heap.size (.slice (some ⟨u1_.heap.size, 0, none⟩) 0 0) []) := Lib.hid (by rw [hu11_]; exact OwnS.made HU1_.out.size)
        have HQ11 : Hid (OwnI u11_ w6.heap.size (.slice (some ⟨u.heap.size, 0, none⟩) 0 0) []) := Lib.hid (by rw [hu11_]; exact HO1.out.below (sbox1 _ _))
        clear hu11_
        refine hK.out _ _ (fun _ => HBX.out _ HU11_.out) (fun hHeld => ?_)
        replace hHeld := hHeld rfl
        clear hK K
        try simp only [Act.put, List.getElem_toArray, List.getElem_cons_zero, List.getElem_cons_succ, List.setIfInBounds_toArray, List.set_cons_zero, List.set_cons_succ]
        refine wpAnyL_ready (rs := [5]) (by kernel_rfl) (by simp) ?_
        refine AllReadyL.cons rfl (fun K hK => ?_) AllReadyL.nil
        refine step_appI (B := w6.heap.size) (C := w6.heap.size) (v := (.slice (some ⟨u.heap.size, 0, none⟩) 0 0)) (l := []) (m := (pnos aps).take j) (q := some ⟨g1, 0, none⟩) (n := j) (c := e1) rfl (.tmp 138) (.tmp 142) rfl (by kernel_rfl) HQ11.out (by kernel_rfl) (HL1.out.stay (Stay.below HU11_.out)) (by have := HLL.out; simp only [List.length_take, List.length_drop, List.length_nil]; omega) HU11_.out.size ?_
        intro v12_ u12_ ho hg
        rw [List.nil_append] at ho
        have HU12_ : Hid (Below w6.heap.size w6 u12_) := Lib.hid (HU11_.out.grown hg HU11_.out.size fun k hk => (World.ownsRow.lt HQ11.out k hk).1)
        have HO12 := Lib.hid ho
        have HQ12 : Hid (OwnS u12_ w6.heap.size (.slice (some ⟨u1_.heap.size, 0, none⟩) 0 0) []) := Lib.hid (HO11.out.kept hg (own_apart HO11.out HQ11.out (by decide)))
        clear ho hg
        refine hK.out _ _ (fun _ => HBX.out _ HU12_.out) (fun hHeld => ?_)
        replace hHeld := hHeld rfl
        clear hK K
        try simp only [Act.put, List.getElem_toArray, List.getElem_cons_zero, List.getElem_cons_succ, List.setIfInBounds_toArray, List.set_cons_zero, List.set_cons_succ]
        refine wpAnyL_ready (rs := [11]) (by kernel_rfl) (by simp) ?_
        refine AllReadyL.cons rfl (fun K hK => ?_) AllReadyL.nil
        refine step_appI (B := w6.heap.size) (C := w6.heap.size) (v := v12_) (l := ((pnos aps).take j)) (m := (pnos aps).drop (j + 1)) (q := some A1) (n := m1 - (j + 1)) (c := e1 - (j + 1)) rfl (.tmp 143) (.tmp 148) rfl (by kernel_rfl) HO12.out (by kernel_rfl) (hAl1.out.stay (Stay.below HU12_.out)) (by have := HLL.out; simp only [List.length_take, List.length_drop, List.length_nil]; omega) HU12_.out.size ?_
        intro v13_ u13_ ho hg
        have HU13_ : Hid (Below w6.heap.size w6 u13_) := Lib.hid (HU12_.out.grown hg HU12_.out.size fun k hk => (World.ownsRow.lt HO12.out k hk).1)
        have HO13 := Lib.hid ho
        have HQ13 : Hid (OwnS u13_ w6.heap.size (.slice (some ⟨u1_.heap.size, 0, none⟩) 0 0) []) := Lib.hid (HQ12.out.kept hg (own_apart HQ12.out HO12.out (by decide)))
        clear ho hg
        refine hK.out _ _ (fun _ => HBX.out _ HU13_.out) (fun hHeld => ?_)
        replace hHeld := hHeld rfl
        clear hK K
        try simp only [Act.put, List.getElem_toArray, List.getElem_cons_zero, List.getElem_cons_succ, List.setIfInBounds_toArray, List.set_cons_zero, List.set_cons_succ]
        refine wpAnyL_ready (rs := [17]) (by kernel_rfl) (by simp) ?_
        refine AllReadyL.cons rfl (fun K hK => ?_) AllReadyL.nil
        refine step_appS (B := w6.heap.size) (C := w6.heap.size) (v := (.slice (some ⟨u1_.heap.size, 0, none⟩) 0 0)) (l := []) (m := (pstr aps).take j) (q := some ⟨g2, 0, none⟩) (n := j) (c := e2) rfl (.tmp 150) (.tmp 154) rfl (by kernel_rfl) HQ13.out (by kernel_rfl) (HL2.out.stay (Stay.below HU13_.out)) (by have := HLM.out; simp only [List.length_take, List.length_drop, List.length_nil]; omega) HU13_.out.size ?_
        intro v14_ u14_ ho hg
        rw [List.nil_append] at ho
        have HU14_ : Hid (Below w6.heap.size w6 u14_) := Lib.hid (HU13_.out.grown hg HU13_.out.size fun k hk => (World.ownsRow.lt HQ13.out k hk).1)
        have HO14 := Lib.hid ho
        have HQ14 : Hid (OwnI u14_ w6.heap.size v13_ ((pnos aps).take j ++ (pnos aps).drop (j + 1))) := Lib.hid (HO13.out.kept hg (own_apart HO13.out HQ13.out (by decide)))
        clear ho hg
        refine hK.out _ _ (fun _ => HBX.out _ HU14_.out) (fun hHeld => ?_)
        replace hHeld := hHeld rfl
        clear hK K
        try simp only [Act.put, List.getElem_toArray, List.getElem_cons_zero, List.getElem_cons_succ, List.setIfInBounds_toArray, List.set_cons_zero, List.set_cons_succ]
        refine wpAnyL_ready (rs := [23]) (by kernel_rfl) (by simp) ?_
        refine AllReadyL.cons rfl (fun K hK => ?_) AllReadyL.nil
        refine step_appS (B := w6.heap.size) (C := w6.heap.size) (v := v14_) (l := ((pstr aps).take j)) (m := (pstr aps).drop (j + 1)) (q := some A2) (n := m2 - (j + 1)) (c := e2 - (j + 1)) rfl (.tmp 155) (.tmp 160) rfl (by kernel_rfl) HO14.out (by kernel_rfl) (hAl2.out.stay (Stay.below HU14_.out)) (by have := HLM.out; simp only [List.length_take, List.length_drop, List.length_nil]; omega) HU14_.out.size ?_
        intro v15_ u15_ ho hg
        have HU15_ : Hid (Below w6.heap.size w6 u15_) := Lib.hid (HU14_.out.grown hg HU14_.out.size fun k hk => (World.ownsRow.lt HO14.out k hk).1)
        have HO15 := Lib.hid ho
        have HQ15 : Hid (OwnI u15_ w6.heap.size v13_ ((pnos aps).take j ++ (pnos aps).drop (j + 1))) := Lib.hid (HQ14.out.kept hg (own_apart HQ14.out HO14.out (by decide)))
        clear ho hg
        refine hK.out _ _ (fun _ => HBX.out _ HU15_.out) (fun hHeld => ?_)
        replace hHeld := hHeld rfl
        clear hK K
        try simp only [Act.put, List.getElem_toArray, List.getElem_cons_zero, List.getElem_cons_succ, List.setIfInBounds_toArray, List.set_cons_zero, List.set_cons_succ]
        have HF := Lib.hid (HFIN.out u15_ _ _ HU15_.out HQ15.out HO15.out)
        obtain ⟨p1, d1, hp1, _⟩ := HQ15.out.lie
        obtain ⟨p2, d2, hp2, _⟩ := HO15.out.lie
        obtain ⟨z1, hz1⟩ : ∃ z, z = ((pnos aps).take j ++ (pnos aps).drop (j + 1)).length := ⟨_, rfl⟩
        obtain ⟨z2, hz2⟩ : ∃ z, z = ((pstr aps).take j ++ (pstr aps).drop (j + 1)).length := ⟨_, rfl⟩
        rw [← hz1] at hp1
        rw [← hz2] at hp2
        subst hp1 hp2
        clear hz1 hz2
        refine wpAnyL_take (i := 24) (v := ?_) rfl (by kernel_rfl) (by kernel_rfl) (by kernel_rfl) (by kernel_rfl) (fun _ _ _ h => h) (Or.inl ⟨by rfl, ?_⟩) (by assumption) ?_
        rotate_left
        · intro w hSw; (try dsimp only at hSw); go_simp; try with_reducible rfl
        simp only [Act.put, List.getElem_toArray, List.getElem_cons_zero, List.getElem_cons_succ, List.setIfInBounds_toArray, List.set_cons_zero, List.set_cons_succ]
        refine wpAnyL_ready (rs := [25]) (by kernel_rfl) (by simp) ?_
        refine AllReadyL.cons rfl (fun K hK => ?_) AllReadyL.nil
        refine step_store_row rfl 35 (.tmp 11) (.tmp 162) rfl (bd + 1) #[.slice p1 z1 d1, .slice p2 z2 d2, .int .i64 0] (by kernel_rfl) (by kernel_rfl) 35 _ (HY6.out _ HU15_.out) (by kernel_rfl) (by rfl) (by simp [Value.oneCell']) ?_
        obtain ⟨x, hx⟩ : ∃ x, x = u15_.setRow (bd + 1) #[.slice p1 z1 d1, .slice p2 z2 d2, .int .i64 0] := ⟨_, rfl⟩
        rw [← hx] at HF ⊢
        refine hK.out _ _ (fun h => absurd h (by decide)) (fun hHeld => ?_)
        clear hK K
        try simp only [Act.put, List.getElem_toArray, List.getElem_cons_zero, List.getElem_cons_succ]
        refine wpAnyL_done (by kernel_rfl) ?_ _
        clear hx
        try dsimp only
        go_wp2_with fail
        first | exact HF.out | (apply hm; exact HF.out)
    · skip
      go_simp
      try dsimp only
      obtain ⟨u16_, hu16_⟩ : ∃ u16_, u16_ = u.alloc (.cells #[] 9) := ⟨_, rfl⟩
      rw [← hu16_]
      have HU16_ : Hid (Below w6.heap.size w6 u16_) := Lib.hid (by rw [hu16_]; exact HU.out.alloc HU.out.size _)
      have HO16 : Hid (OwnS u16_ w6.heap.size (.slice (some ⟨u.heap.size, 0, none⟩) 0 0) []) := Lib.hid (by rw [hu16_]; exact OwnS.made HU.out.size)
      clear hu16_
      refine hK.out _ _ (fun _ => HBX.out _ HU16_.out) (fun hHeld => ?_)
      replace hHeld := hHeld rfl
      clear hK K
      try simp only [Act.put, List.getElem_toArray, List.getElem_cons_zero, List.getElem_cons_succ, List.setIfInBounds_toArray, List.set_cons_zero, List.set_cons_succ]
      refine wpAnyL_ready (rs := [0]) (by kernel_rfl) (by simp) ?_
      refine AllReadyL.cons rfl (fun K hK => ?_) AllReadyL.nil
      go_simp
      try dsimp only
      obtain ⟨u17_, hu17_⟩ : ∃ u17_, u17_ = u16_.alloc (.cells #[] 3) := ⟨_, rfl⟩
      rw [← hu17_]
      have HU17_ : Hid (Below w6.heap.size w6 u17_) := Lib.hid (by rw [hu17_]; exact HU16_.out.alloc HU16_.out.size _)
      have HO17 : Hid (OwnI u17_ w6.heap.size (.slice (some ⟨u16_.heap.size, 0, none⟩) 0 0) []) := Lib.hid (by rw [hu17_]; exact OwnI.made HU16_.out.size)
      have HQ17 : Hid (OwnS u17_ w6.heap.size (.slice (some ⟨u.heap.size, 0, none⟩) 0 0) []) := Lib.hid (by rw [hu17_]; exact HO16.out.below (sbox1 _ _))
      clear hu17_
      refine hK.out _ _ (fun _ => HBX.out _ HU17_.out) (fun hHeld => ?_)
      replace hHeld := hHeld rfl
      clear hK K
      try simp only [Act.put, List.getElem_toArray, List.getElem_cons_zero, List.getElem_cons_succ, List.setIfInBounds_toArray, List.set_cons_zero, List.set_cons_succ]
      refine wpAnyL_ready (rs := [5]) (by kernel_rfl) (by simp) ?_
      refine AllReadyL.cons rfl (fun K hK => ?_) AllReadyL.nil
      refine step_appI (B := w6.heap.size) (C := w6.heap.size) (v := (.slice (some ⟨u16_.heap.size, 0, none⟩) 0 0)) (l := []) (m := (pnos aps).take j) (q := some ⟨g1, 0, none⟩) (n := j) (c := e1) rfl (.tmp 138) (.tmp 142) rfl (by kernel_rfl) HO17.out (by kernel_rfl) (HL1.out.stay (Stay.below HU17_.out)) (by have := HLL.out; simp only [List.length_take, List.length_drop, List.length_nil]; omega) HU17_.out.size ?_
      intro v18_ u18_ ho hg
      rw [List.nil_append] at ho
      have HU18_ : Hid (Below w6.heap.size w6 u18_) := Lib.hid (HU17_.out.grown hg HU17_.out.size fun k hk => (World.ownsRow.lt HO17.out k hk).1)
      have HO18 := Lib.hid ho
      have HQ18 : Hid (OwnS u18_ w6.heap.size (.slice (some ⟨u.heap.size, 0, none⟩) 0 0) []) := Lib.hid (HQ17.out.kept hg (own_apart HQ17.out HO17.out (by decide)))
      clear ho hg
      refine hK.out _ _ (fun _ => HBX.out _ HU18_.out) (fun hHeld => ?_)
      replace hHeld := hHeld rfl
      clear hK K
      try simp only [Act.put, List.getElem_toArray, List.getElem_cons_zero, List.getElem_cons_succ, List.setIfInBounds_toArray, List.set_cons_zero, List.set_cons_succ]
      refine wpAnyL_ready (rs := [11]) (by kernel_rfl) (by simp) ?_
      refine AllReadyL.cons rfl (fun K hK => ?_) AllReadyL.nil
      refine step_appI (B := w6.heap.size) (C := w6.heap.size) (v := v18_) (l := ((pnos aps).take j)) (m := (pnos aps).drop (j + 1)) (q := some A1) (n := m1 - (j + 1)) (c := e1 - (j + 1)) rfl (.tmp 143) (.tmp 148) rfl (by kernel_rfl) HO18.out (by kernel_rfl) (hAl1.out.stay (Stay.below HU18_.out)) (by have := HLL.out; simp only [List.length_take, List.length_drop, List.length_nil]; omega) HU18_.out.size ?_
      intro v19_ u19_ ho hg
      have HU19_ : Hid (Below w6.heap.size w6 u19_) := Lib.hid (HU18_.out.grown hg HU18_.out.size fun k hk => (World.ownsRow.lt HO18.out k hk).1)
      have HO19 := Lib.hid ho
      have HQ19 : Hid (OwnS u19_ w6.heap.size (.slice (some ⟨u.heap.size, 0, none⟩) 0 0) []) := Lib.hid (HQ18.out.kept hg (own_apart HQ18.out HO18.out (by decide)))
      clear ho hg
      refine hK.out _ _ (fun _ => HBX.out _ HU19_.out) (fun hHeld => ?_)
      replace hHeld := hHeld rfl
      clear hK K
      try simp only [Act.put, List.getElem_toArray, List.getElem_cons_zero, List.getElem_cons_succ, List.setIfInBounds_toArray, List.set_cons_zero, List.set_cons_succ]
      refine wpAnyL_ready (rs := [17]) (by kernel_rfl) (by simp) ?_
      refine AllReadyL.cons rfl (fun K hK => ?_) AllReadyL.nil
      refine step_appS (B := w6.heap.size) (C := w6.heap.size) (v := (.slice (some ⟨u.heap.size, 0, none⟩) 0 0)) (l := []) (m := (pstr aps).take j) (q := some ⟨g2, 0, none⟩) (n := j) (c := e2) rfl (.tmp 150) (.tmp 154) rfl (by kernel_rfl) HQ19.out (by kernel_rfl) (HL2.out.stay (Stay.below HU19_.out)) (by have := HLM.out; simp only [List.length_take, List.length_drop, List.length_nil]; omega) HU19_.out.size ?_
      intro v20_ u20_ ho hg
      rw [List.nil_append] at ho
      have HU20_ : Hid (Below w6.heap.size w6 u20_) := Lib.hid (HU19_.out.grown hg HU19_.out.size fun k hk => (World.ownsRow.lt HQ19.out k hk).1)
      have HO20 := Lib.hid ho
      have HQ20 : Hid (OwnI u20_ w6.heap.size v19_ ((pnos aps).take j ++ (pnos aps).drop (j + 1))) := Lib.hid (HO19.out.kept hg (own_apart HO19.out HQ19.out (by decide)))
      clear ho hg
      refine hK.out _ _ (fun _ => HBX.out _ HU20_.out) (fun hHeld => ?_)
      replace hHeld := hHeld rfl
      clear hK K
      try simp only [Act.put, List.getElem_toArray, List.getElem_cons_zero, List.getElem_cons_succ, List.setIfInBounds_toArray, List.set_cons_zero, List.set_cons_succ]
      refine wpAnyL_ready (rs := [23]) (by kernel_rfl) (by simp) ?_
      refine AllReadyL.cons rfl (fun K hK => ?_) AllReadyL.nil
      refine step_appS (B := w6.heap.size) (C := w6.heap.size) (v := v20_) (l := ((pstr aps).take j)) (m := (pstr aps).drop (j + 1)) (q := some A2) (n := m2 - (j + 1)) (c := e2 - (j + 1)) rfl (.tmp 155) (.tmp 160) rfl (by kernel_rfl) HO20.out (by kernel_rfl) (hAl2.out.stay (Stay.below HU20_.out)) (by have := HLM.out; simp only [List.length_take, List.length_drop, List.length_nil]; omega) HU20_.out.size ?_
      intro v21_ u21_ ho hg
      have HU21_ : Hid (Below w6.heap.size w6 u21_) := Lib.hid (HU20_.out.grown hg HU20_.out.size fun k hk => (World.ownsRow.lt HO20.out k hk).1)
      have HO21 := Lib.hid ho
      have HQ21 : Hid (OwnI u21_ w6.heap.size v19_ ((pnos aps).take j ++ (pnos aps).drop (j + 1))) := Lib.hid (HQ20.out.kept hg (own_apart HQ20.out HO20.out (by decide)))
      clear ho hg
      refine hK.out _ _ (fun _ => HBX.out _ HU21_.out) (fun hHeld => ?_)
      replace hHeld := hHeld rfl
      clear hK K
      try simp only [Act.put, List.getElem_toArray, List.getElem_cons_zero, List.getElem_cons_succ, List.setIfInBounds_toArray, List.set_cons_zero, List.set_cons_succ]
      have HF := Lib.hid (HFIN.out u21_ _ _ HU21_.out HQ21.out HO21.out)
      obtain ⟨p1, d1, hp1, _⟩ := HQ21.out.lie
      obtain ⟨p2, d2, hp2, _⟩ := HO21.out.lie
      obtain ⟨z1, hz1⟩ : ∃ z, z = ((pnos aps).take j ++ (pnos aps).drop (j + 1)).length := ⟨_, rfl⟩
      obtain ⟨z2, hz2⟩ : ∃ z, z = ((pstr aps).take j ++ (pstr aps).drop (j + 1)).length := ⟨_, rfl⟩
      rw [← hz1] at hp1
      rw [← hz2] at hp2
      subst hp1 hp2
      clear hz1 hz2
      refine wpAnyL_take (i := 24) (v := ?_) rfl (by kernel_rfl) (by kernel_rfl) (by kernel_rfl) (by kernel_rfl) (fun _ _ _ h => h) (Or.inl ⟨by rfl, ?_⟩) (by assumption) ?_
      rotate_left
      · intro w hSw; (try dsimp only at hSw); go_simp; try with_reducible rfl
      simp only [Act.put, List.getElem_toArray, List.getElem_cons_zero, List.getElem_cons_succ, List.setIfInBounds_toArray, List.set_cons_zero, List.set_cons_succ]
      refine wpAnyL_ready (rs := [25]) (by kernel_rfl) (by simp) ?_
      refine AllReadyL.cons rfl (fun K hK => ?_) AllReadyL.nil
      refine step_store_row rfl 35 (.tmp 11) (.tmp 162) rfl (bd + 1) #[.slice p1 z1 d1, .slice p2 z2 d2, .int .i64 0] (by kernel_rfl) (by kernel_rfl) 35 _ (HY6.out _ HU21_.out) (by kernel_rfl) (by rfl) (by simp [Value.oneCell']) ?_
      obtain ⟨x, hx⟩ : ∃ x, x = u21_.setRow (bd + 1) #[.slice p1 z1 d1, .slice p2 z2 d2, .int .i64 0] := ⟨_, rfl⟩
      rw [← hx] at HF ⊢
      refine hK.out _ _ (fun h => absurd h (by decide)) (fun hHeld => ?_)
      clear hK K
      try simp only [Act.put, List.getElem_toArray, List.getElem_cons_zero, List.getElem_cons_succ]
      refine wpAnyL_done (by kernel_rfl) ?_ _
      clear hx
      try dsimp only
      go_wp2_with fail
      first | exact HF.out | (apply hm; exact HF.out)

end Go.Proofs.YtmlnpgbnbchbkaaDoor
