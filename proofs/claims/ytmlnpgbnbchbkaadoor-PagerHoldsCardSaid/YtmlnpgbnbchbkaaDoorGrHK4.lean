/-
  PagerHolds: an act of kind 4.
-/
import Derived.Test.YtmlnpgbnbchbkaaDoorH34
import Derived.LoopTactic
import Derived.Deep.LoopGhost
import Derived.Deep.CutBlock
import Derived.Deep.CutRange
import Derived.Deep.RegionHeld3
import Derived.Deep.RegionLaw
set_option linter.unusedVariables false
set_option maxRecDepth 100000
namespace Go.Proofs.YtmlnpgbnbchbkaaDoor
open Go.RowKit

set_option maxHeartbeats 25600000 in
theorem kind_4 {w w3 : World} (HT : Hid (Tab w)) {kq : Option Addr} {kn kc : Nat} {keep : List Int} (HK : Hid (Ks w kq keep)) (HKN : Hid (kn = keep.length)) (hkm : kn ≤ 9223372036854775807) {N : Nat} (hN : N ≤ 31) {P p bd i m : Nat} (HLT : LtN i m) (HLT2 : LtN i 80) (i0 : (0 : Int) ≤ (i : Int)) (i2 : (i : Int) < 80) {bw : Nat} {u12 u13 : Value} (HI3 : Hid (PHE w w3 (4 + (N : Int)) P p (bd + 2) bd (bd + 1) i u12 u13)) (HW3 : Hid (Below w.heap.size w w3)) {kk : Int} {bq : Option Addr} {bn bc : Nat} (HPB : Hid (w3.heap[bw]? = some (.cells #[.int .i64 (4), .int .i64 kk, .slice bq bn bc] 39 (0, 0)))) {bl : List UInt8} (HBS : Hid (Bs w bq bl)) (HBN : Hid (bn = bl.length)) (h6 : bn ≤ 493) (hbc : Hid (bn ≤ bc)) {c1 c3 c4 c5 c8 c24 c25 c26 c27 c28 c29 c30 c31 c32 c33 c34 c35 c36 c37 c38 c39 c40 c41 c42 c43 c44 c45 c46 c47 c48 c49 c50 c51 c52 c53 c54 c333 c334 c335 c336 u6 u16 u17 u18 u19 u20 u21 u22 u23 u55 u56 u57 u58 u59 u60 u61 u62 u63 u64 u65 u66 u67 u68 u69 u70 u71 u72 u73 u74 u75 u76 u77 u78 u79 u80 u81 u82 u83 u84 u85 u86 u87 u88 u89 u90 u91 u92 u93 u94 u95 u96 u97 u98 u99 u100 u101 u102 u103 u104 u105 u106 u107 u108 u109 u110 u111 u112 u113 u114 u115 u116 u117 u118 u119 u120 u121 u122 u123 u124 u125 u126 u127 u128 u129 u130 u131 u132 u133 u134 u135 u136 u137 u138 u139 u140 u141 u142 u143 u144 u145 u146 u147 u148 u149 u150 u151 u152 u153 u154 u155 u156 u157 u158 u159 u160 u161 u162 u163 u164 u165 u166 u167 u168 u169 u170 u171 u172 u173 u174 u175 u176 u177 u178 u179 u180 u181 u182 u183 u184 u185 u186 u187 u188 u189 u190 u191 u192 u193 u194 u195 u196 u197 u198 u199 u200 u201 u202 u203 u204 u205 u206 u207 u208 u209 u210 u211 u212 u213 u214 u215 u216 u217 u218 u219 u220 u221 u222 u223 u224 u225 u226 u227 u228 u229 u230 u231 u232 u233 u234 u235 u236 u237 u238 u239 u240 u241 u242 u243 u244 u245 u246 u247 u248 u249 u250 u251 u252 u253 u254 u255 u256 u257 u258 u259 u260 u261 u262 u263 u264 u265 u266 u267 u268 u269 u270 u271 u272 u273 u274 u275 u276 u277 u278 u279 u280 u281 u282 u283 u284 u285 u286 u287 u288 u289 u290 u291 u292 u293 u294 u295 u296 u297 u298 u299 u300 u301 u302 u303 u304 u305 u306 u307 u308 u309 u310 u311 u312 u313 u314 u315 u316 u317 u318 u319 u320 u321 u322 u323 u324 u325 u326 u327 u328 u329 u330 u331 u332 : Value} {K0 K1 K2 K3 : Act → World → Prop} (hm : ∀ (v12 v13 v6 v16 v17 v18 v19 v20 v21 v22 v55 v56 v57 v58 v59 v60 v61 v62 v63 v64 v65 v66 v67 v68 v69 v70 v71 v72 v73 v74 v75 v76 v77 v78 v79 v80 v81 v82 v83 v84 v85 v86 v87 v88 v89 v90 v91 v92 v93 v94 v95 v96 v97 v98 v99 v100 v101 v102 v103 v104 v105 v106 v107 v108 v109 v110 v111 v112 v113 v114 v115 v116 v117 v118 v119 v120 v121 v122 v123 v124 v125 v126 v127 v128 v129 v130 v131 v132 v133 v134 v135 v136 v137 v138 v139 v140 v141 v142 v143 v144 v145 v146 v147 v148 v149 v150 v151 v152 v153 v154 v155 v156 v157 v158 v159 v160 v161 v162 v163 v164 v165 v166 v167 v168 v169 v170 v171 v172 v173 v174 v175 v176 v177 v178 v179 v180 v181 v182 v183 v184 v185 v186 v187 v188 v189 v190 v191 v192 v193 v194 v195 v196 v197 v198 v199 v200 v201 v202 v203 v204 v205 v206 v207 v208 v209 v210 v211 v212 v213 v214 v215 v216 v217 v218 v219 v220 v221 v222 v223 v224 v225 v226 v227 v228 v229 v230 v231 v232 v233 v234 v235 v236 v237 v238 v239 v240 v241 v242 v243 v244 v245 v246 v247 v248 v249 v250 v251 v252 v253 v254 v255 v256 v257 v258 v259 v260 v261 v262 v263 v264 v265 v266 v267 v268 v269 v270 v271 v272 v273 v274 v275 v276 v277 v278 v279 v280 v281 v282 v283 v284 v285 v286 v287 v288 v289 v290 v291 v292 v293 v294 v295 v296 v297 v298 v299 v300 v301 v302 v303 v304 v305 v306 v307 v308 v309 v310 v311 v312 v313 v314 v315 v316 v317 v318 v319 v320 v321 v322 v323 v324 v325 v326 v327 v328 v329 v330 v331 v332 : Value) (wx : World), PHE w wx (4 + (N : Int)) P p (bd + 2) bd (bd + 1) (i + 1) v12 v13 → K0 ⟨#[.int .i64 (4 + (N : Int)), c1, .slice kq kn kc, c3, c4, c5, v6, .pointer (some ⟨p, 0, none⟩), c8, .pointer (some ⟨P, 0, none⟩), .pointer (some ⟨bd, 0, none⟩), .pointer (some ⟨bd + 1, 0, none⟩), v12, v13, .int .i64 (i : Int), .pointer (some ⟨bw, 0, none⟩), v16, v17, v18, v19, v20, v21, v22, u23, c24, c25, c26, c27, c28, c29, c30, c31, c32, c33, c34, c35, c36, c37, c38, c39, c40, c41, c42, c43, c44, c45, c46, c47, c48, c49, c50, c51, c52, c53, c54, v55, v56, v57, v58, v59, v60, v61, v62, v63, v64, v65, v66, v67, v68, v69, v70, v71, v72, v73, v74, v75, v76, v77, v78, v79, v80, v81, v82, v83, v84, v85, v86, v87, v88, v89, v90, v91, v92, v93, v94, v95, v96, v97, v98, v99, v100, v101, v102, v103, v104, v105, v106, v107, v108, v109, v110, v111, v112, v113, v114, v115, v116, v117, v118, v119, v120, v121, v122, v123, v124, v125, v126, v127, v128, v129, v130, v131, v132, v133, v134, v135, v136, v137, v138, v139, v140, v141, v142, v143, v144, v145, v146, v147, v148, v149, v150, v151, v152, v153, v154, v155, v156, v157, v158, v159, v160, v161, v162, v163, v164, v165, v166, v167, v168, v169, v170, v171, v172, v173, v174, v175, v176, v177, v178, v179, v180, v181, v182, v183, v184, v185, v186, v187, v188, v189, v190, v191, v192, v193, v194, v195, v196, v197, v198, v199, v200, v201, v202, v203, v204, v205, v206, v207, v208, v209, v210, v211, v212, v213, v214, v215, v216, v217, v218, v219, v220, v221, v222, v223, v224, v225, v226, v227, v228, v229, v230, v231, v232, v233, v234, v235, v236, v237, v238, v239, v240, v241, v242, v243, v244, v245, v246, v247, v248, v249, v250, v251, v252, v253, v254, v255, v256, v257, v258, v259, v260, v261, v262, v263, v264, v265, v266, v267, v268, v269, v270, v271, v272, v273, v274, v275, v276, v277, v278, v279, v280, v281, v282, v283, v284, v285, v286, v287, v288, v289, v290, v291, v292, v293, v294, v295, v296, v297, v298, v299, v300, v301, v302, v303, v304, v305, v306, v307, v308, v309, v310, v311, v312, v313, v314, v315, v316, v317, v318, v319, v320, v321, v322, v323, v324, v325, v326, v327, v328, v329, v330, v331, v332, c333, c334, c335, c336], []⟩ wx) (hm1 : ∀ (v12 v13 v6 v16 v17 v18 v19 v20 v21 v22 v23 v55 v56 v57 v58 v59 v60 v61 v62 v63 v64 v65 v66 v67 v68 v69 v70 v71 v72 v73 v74 v75 v76 v77 v78 v79 v80 v81 v82 v83 v84 v85 v86 v87 v88 v89 v90 v91 v92 v93 v94 v95 v96 v97 v98 v99 v100 v101 v102 v103 v104 v105 v106 v107 v108 v109 v110 v111 v112 v113 v114 v115 v116 v117 v118 v119 v120 v121 v122 v123 v124 v125 v126 v127 v128 v129 v130 v131 v132 v133 v134 v135 v136 v137 v138 v139 v140 v141 v142 v143 v144 v145 v146 v147 v148 v149 v150 v151 v152 v153 v154 v155 v156 v157 v158 v159 v160 v161 v162 v163 v164 v165 v166 v167 v168 v169 v170 v171 v172 v173 v174 v175 v176 v177 v178 v179 v180 v181 v182 v183 v184 v185 v186 v187 v188 v189 v190 v191 v192 v193 v194 v195 v196 v197 v198 v199 v200 v201 v202 v203 v204 v205 v206 v207 v208 v209 v210 v211 v212 v213 v214 v215 v216 v217 v218 v219 v220 v221 v222 v223 v224 v225 v226 v227 v228 v229 v230 v231 v232 v233 v234 v235 v236 v237 v238 v239 v240 v241 v242 v243 v244 v245 v246 v247 v248 v249 v250 v251 v252 v253 v254 v255 v256 v257 v258 v259 v260 v261 v262 v263 v264 v265 v266 v267 v268 v269 v270 v271 v272 v273 v274 v275 v276 v277 v278 v279 v280 v281 v282 v283 v284 v285 v286 v287 v288 v289 v290 v291 v292 v293 v294 v295 v296 v297 v298 v299 v300 v301 v302 v303 v304 v305 v306 v307 v308 v309 v310 v311 v312 v313 v314 v315 v316 v317 v318 v319 v320 v321 v322 v323 v324 v325 v326 v327 v328 v329 v330 v331 v332 : Value) (wx : World), PHE w wx (4 + (N : Int)) P p (bd + 2) bd (bd + 1) (i + 1) v12 v13 → K1 ⟨#[.int .i64 (4 + (N : Int)), c1, .slice kq kn kc, c3, c4, c5, v6, .pointer (some ⟨p, 0, none⟩), c8, .pointer (some ⟨P, 0, none⟩), .pointer (some ⟨bd, 0, none⟩), .pointer (some ⟨bd + 1, 0, none⟩), v12, v13, .int .i64 (i : Int), .pointer (some ⟨bw, 0, none⟩), v16, v17, v18, v19, v20, v21, v22, v23, c24, c25, c26, c27, c28, c29, c30, c31, c32, c33, c34, c35, c36, c37, c38, c39, c40, c41, c42, c43, c44, c45, c46, c47, c48, c49, c50, c51, c52, c53, c54, v55, v56, v57, v58, v59, v60, v61, v62, v63, v64, v65, v66, v67, v68, v69, v70, v71, v72, v73, v74, v75, v76, v77, v78, v79, v80, v81, v82, v83, v84, v85, v86, v87, v88, v89, v90, v91, v92, v93, v94, v95, v96, v97, v98, v99, v100, v101, v102, v103, v104, v105, v106, v107, v108, v109, v110, v111, v112, v113, v114, v115, v116, v117, v118, v119, v120, v121, v122, v123, v124, v125, v126, v127, v128, v129, v130, v131, v132, v133, v134, v135, v136, v137, v138, v139, v140, v141, v142, v143, v144, v145, v146, v147, v148, v149, v150, v151, v152, v153, v154, v155, v156, v157, v158, v159, v160, v161, v162, v163, v164, v165, v166, v167, v168, v169, v170, v171, v172, v173, v174, v175, v176, v177, v178, v179, v180, v181, v182, v183, v184, v185, v186, v187, v188, v189, v190, v191, v192, v193, v194, v195, v196, v197, v198, v199, v200, v201, v202, v203, v204, v205, v206, v207, v208, v209, v210, v211, v212, v213, v214, v215, v216, v217, v218, v219, v220, v221, v222, v223, v224, v225, v226, v227, v228, v229, v230, v231, v232, v233, v234, v235, v236, v237, v238, v239, v240, v241, v242, v243, v244, v245, v246, v247, v248, v249, v250, v251, v252, v253, v254, v255, v256, v257, v258, v259, v260, v261, v262, v263, v264, v265, v266, v267, v268, v269, v270, v271, v272, v273, v274, v275, v276, v277, v278, v279, v280, v281, v282, v283, v284, v285, v286, v287, v288, v289, v290, v291, v292, v293, v294, v295, v296, v297, v298, v299, v300, v301, v302, v303, v304, v305, v306, v307, v308, v309, v310, v311, v312, v313, v314, v315, v316, v317, v318, v319, v320, v321, v322, v323, v324, v325, v326, v327, v328, v329, v330, v331, v332, c333, c334, c335, c336], []⟩ wx) (h78 : u78 = .int .i64 (4)) : Code.wp Tryd.prog swC (Exit.then K0 (Exit.inBlock 1 (Exit.then K1 (Exit.then K2 (Exit.inBlock 0 (Exit.then K3 (bodyPost Tryd.prog Tryd.f3 fun e w' => e = .returned (.bool true) ∧ Below w.heap.size w w'))))))) ⟨#[.int .i64 (4 + (N : Int)), c1, .slice kq kn kc, c3, c4, c5, u6, .pointer (some ⟨p, 0, none⟩), c8, .pointer (some ⟨P, 0, none⟩), .pointer (some ⟨bd, 0, none⟩), .pointer (some ⟨bd + 1, 0, none⟩), u12, u13, .int .i64 (i : Int), .pointer (some ⟨bw, 0, none⟩), u16, u17, u18, u19, u20, u21, u22, u23, c24, c25, c26, c27, c28, c29, c30, c31, c32, c33, c34, c35, c36, c37, c38, c39, c40, c41, c42, c43, c44, c45, c46, c47, c48, c49, c50, c51, c52, c53, c54, u55, u56, u57, u58, u59, u60, u61, u62, u63, u64, u65, u66, u67, u68, u69, u70, u71, u72, u73, u74, u75, u76, u77, u78, u79, u80, u81, u82, u83, u84, u85, u86, u87, u88, u89, u90, u91, u92, u93, u94, u95, u96, u97, u98, u99, u100, u101, u102, u103, u104, u105, u106, u107, u108, u109, u110, u111, u112, u113, u114, u115, u116, u117, u118, u119, u120, u121, u122, u123, u124, u125, u126, u127, u128, u129, u130, u131, u132, u133, u134, u135, u136, u137, u138, u139, u140, u141, u142, u143, u144, u145, u146, u147, u148, u149, u150, u151, u152, u153, u154, u155, u156, u157, u158, u159, u160, u161, u162, u163, u164, u165, u166, u167, u168, u169, u170, u171, u172, u173, u174, u175, u176, u177, u178, u179, u180, u181, u182, u183, u184, u185, u186, u187, u188, u189, u190, u191, u192, u193, u194, u195, u196, u197, u198, u199, u200, u201, u202, u203, u204, u205, u206, u207, u208, u209, u210, u211, u212, u213, u214, u215, u216, u217, u218, u219, u220, u221, u222, u223, u224, u225, u226, u227, u228, u229, u230, u231, u232, u233, u234, u235, u236, u237, u238, u239, u240, u241, u242, u243, u244, u245, u246, u247, u248, u249, u250, u251, u252, u253, u254, u255, u256, u257, u258, u259, u260, u261, u262, u263, u264, u265, u266, u267, u268, u269, u270, u271, u272, u273, u274, u275, u276, u277, u278, u279, u280, u281, u282, u283, u284, u285, u286, u287, u288, u289, u290, u291, u292, u293, u294, u295, u296, u297, u298, u299, u300, u301, u302, u303, u304, u305, u306, u307, u308, u309, u310, u311, u312, u313, u314, u315, u316, u317, u318, u319, u320, u321, u322, u323, u324, u325, u326, u327, u328, u329, u330, u331, u332, c333, c334, c335, c336], []⟩ w3 := by
  subst h78
  conv => arg 2; whnf
  obtain ⟨X, ⟨d1, d2, dr, dps⟩, ⟨a1, a2, ar, aps⟩, qs, gens, hP⟩ := HI3.out
  have hbx := hP.boxes
  have s0 : w3.cell? ⟨bd, 0, none⟩ = some d1 := hbx.1.1
  have s1 : w3.cell? ⟨bd, 1, none⟩ = some d2 := hbx.1.2.1
  have s2 : w3.cell? ⟨bd, 2, none⟩ = some (.int .i64 dr) := hbx.1.2.2
  have t0 : w3.cell? ⟨bd + 1, 0, none⟩ = some a1 := hbx.2.1.1
  have t1 : w3.cell? ⟨bd + 1, 1, none⟩ = some a2 := hbx.2.1.2.1
  have t2 : w3.cell? ⟨bd + 1, 2, none⟩ = some (.int .i64 ar) := hbx.2.1.2.2
  have hbdl : bd < w3.heap.size := hbx.2.2.1
  have hbnl : bd + 1 < w3.heap.size := hbx.2.2.2
  clear hbx
  obtain ⟨q1, n1, c1, hv1, hn1, hn1c, hn1d⟩ := (show OwnI w3 (bd + 2) d1 (pnos dps) from hP.h.ad.1).lie.form
  obtain ⟨q2, n2, c2, hv2, hn2, hn2c, hn2d⟩ := (show OwnS w3 (bd + 2) d2 (pstr dps) from hP.h.ad.2).lie.form
  obtain ⟨r1, m1, e1, hv3, hm1, hm1c, hm1d⟩ := (show OwnI w3 (bd + 2) a1 (pnos aps) from hP.h.an.1).lie.form
  obtain ⟨r2, m2, e2, hv4, hm2, hm2c, hm2d⟩ := (show OwnS w3 (bd + 2) a2 (pstr aps) from hP.h.an.2).lie.form
  subst hv1 hv2 hv3 hv4
  replace hn1 := Lib.hid hn1
  replace hn2 := Lib.hid hn2
  replace hm1 := Lib.hid hm1
  replace hm2 := Lib.hid hm2
  have hP3 := hP
  have hactb : w3.cell? ⟨bw, 0, none⟩ = some (.int .i64 4) := (Joins.cell_of_block HPB.out 0).trans rfl
  have hactk : w3.cell? ⟨bw, 1, none⟩ = some (.int .i64 kk) := (Joins.cell_of_block HPB.out 1).trans rfl
  have hactl : w3.cell? ⟨bw, 2, none⟩ = some (.slice bq bn bc) := (Joins.cell_of_block HPB.out 2).trans rfl
  have hbwl : bw < w3.heap.size := (Array.getElem?_eq_some_iff.1 HPB.out).1
  have f0 : ((4 : Int) == 0) = false := rfl
  have f1 : ((4 : Int) == 1) = false := rfl
  have f2 : ((4 : Int) == 2) = false := rfl
  have f3 : ((4 : Int) == 3) = false := rfl
  have hl3 := hP.l
  dsimp only at hl3
  have HPIN := Lib.hid (hc_pin hP.c (by omega))
  have HP := Lib.hid hP
  clear hP hP3
  try dsimp only
  go_wp2_with fail
  refine HPIN.out.mono ?_
  rintro e w6 ⟨rfl, hkp, Y, hYg, hY⟩
  have HM6 := Lib.hid (HP.out.h.keepsG hkp hkp.size)
  have HY := Lib.hid hY
  have HMT : Hid (Calls Tryd.prog 15 #[.pointer (some ⟨P, 0, none⟩)] w6 fun e w' => e = .returned (.agg #[.int .i64 X.g, .int .i64 Y.r, .int .i64 Y.n, .int .i64 Y.d]) ∧ Below w6.heap.size w6 w') := Lib.hid (by
    obtain ⟨lm, fm, pl, um, wm, la, vv, hI⟩ := hY.m.at_
    have h := grMeta hI
    rw [hYg] at h
    exact h)
  clear hkp hY hYg s0 s1 s2 t0 t1 t2
  try dsimp only
  go_wp2_with fail
  refine HMT.out.mono ?_
  rintro e w7 ⟨rfl, hb7⟩
  have hmg := meta_gen w7 (X.g : Int) Y.r Y.n Y.d
  have HM7 := Lib.hid (HM6.out.below hb7)
  have HY7 := Lib.hid (HY.out.on hb7)
  have hbd7 := HM7.out.hd
  have g0 : w7.cell? ⟨bd, 0, none⟩ = some (.slice q1 n1 c1) := (Joins.cell_of_block hbd7 0).trans rfl
  have g1 : w7.cell? ⟨bd, 1, none⟩ = some (.slice q2 n2 c2) := (Joins.cell_of_block hbd7 1).trans rfl
  have g2 : w7.cell? ⟨bd, 2, none⟩ = some (.int .i64 dr) := (Joins.cell_of_block hbd7 2).trans rfl
  have HCP := Lib.hid (copy_any (w := w7) (HM7.out.ad.1.lie) (HM7.out.ad.2.lie) (by simp [pnos]; omega) (by simp [pstr]; omega) dr)
  have hbdl7 := (Array.getElem?_eq_some_iff.1 hbd7).1
  obtain ⟨qv, cv, hvx, hqc, hqc2, hcells⟩ := row3_form HM7.out.ip
  obtain ⟨gq, gn, gc, hgx, hgn, hgc, hgc2⟩ := HM7.out.ig.lie.form
  subst hvx hgx
  replace hgn := Lib.hid hgn
  clear hb7 hbd7 hcells
  try dsimp only
  go_wp2_with fail
  refine HCP.out.mono ?_
  rintro e w8 ⟨v1, v2, rfl, ho1, ho2, hb8⟩
  have HM8 := Lib.hid (HM7.out.below hb8)
  have HY8 := Lib.hid (HY7.out.on hb8)
  obtain ⟨j1, i1, k1, rfl, hx1, _⟩ := ho1.lie.form
  replace hx1 := Lib.hid hx1
  obtain ⟨j2, i2', k2, rfl, hx2, _⟩ := ho2.lie.form
  replace hx2 := Lib.hid hx2
  obtain ⟨s, hs⟩ : ∃ s : HS, s = ⟨.slice j1 i1 k1, .slice j2 i2' k2, dr, dps⟩ := ⟨_, rfl⟩
  have HSD := Lib.hid hs
  have HQ : Hid (∀ q ∈ qs ++ [s], q.At w8 (bd + 2) ∧ Off q.v1 (.slice r1 m1 e1) ∧ Off q.v2 (.slice r2 m2 e2) ∧ Off q.v1 (.slice gq gn gc)) := Lib.hid (by
    intro q hq
    have hm8 := HM8.out
    have hm7 := HM7.out
    rcases List.mem_append.1 hq with hq | hq
    · exact ⟨hm8.aq q hq, hm8.oq q hq⟩
    · obtain rfl := List.mem_singleton.1 hq
      subst hs
      exact ⟨⟨Joins.ownsRow_le ho1 hm7.lt.2.2.2, Joins.ownsRow_le ho2 hm7.lt.2.2.2⟩, (off_new (B' := 0) hm7.an.1 ho1).2, (off_new (B' := 0) hm7.an.2 ho2).2, (off_new (B' := 0) hm7.ig ho1).2⟩)
  obtain ⟨wX, hwX⟩ : ∃ x, x = w8.alloc (.cells #[.slice j1 i1 k1, .slice j2 i2' k2, .int .i64 dr] 35) := ⟨_, rfl⟩
  have HBX : Hid (Below w8.heap.size w8 wX) := Lib.hid (by rw [hwX]; exact sbox1 _ _)
  have HMX := Lib.hid (HM8.out.below HBX.out)
  have HYX := Lib.hid (HY8.out.on HBX.out)
  have HX0 : Hid (wX.heap[w8.heap.size]? = some (.cells #[s.v1, s.v2, .int .i64 s.r] 35 (0, 0))) := Lib.hid (by rw [hwX, hs]; exact heap_alloc_new _ _)
  have HQX : Hid (∀ q ∈ qs ++ [s], q.At wX (bd + 2) ∧ Off q.v1 (.slice r1 m1 e1) ∧ Off q.v2 (.slice r2 m2 e2) ∧ Off q.v1 (.slice gq gn gc)) := Lib.hid fun q hq => ⟨(HQ.out q hq).1.below HBX.out, (HQ.out q hq).2⟩
  have HLQ : Hid (qs.length ≤ 1000000) := Lib.hid (by have := HY8.out.v.len; simp at this; omega)
  clear hb8 ho1 ho2 hs g0 g1 g2
  try dsimp only
  go_wp2_with (first
    | (at_builtin; refine app_gen rfl (.tmp 225) (.tmp 227) rfl (v := .slice gq gn gc) (l := gens) (y := (X.g : Int)) rfl (HM9.out.ig.below (sbox1 _ _)) rfl ((Joins.cell_of_block (heap_alloc_new w9 _) 0).trans rfl) (by have := hl3; omega) (Nat.le_trans HM9.out.lt.2.2.2 (sbox1 w9 _).size) ?_; intro vg' w10 ho10 hg10 hw10; have HO10 := Lib.hid ho10; have HG10 := Lib.hid hg10; have HW10 := Lib.hid hw10; clear ho10 hg10 hw10)
    | (at_builtin; go_loud (rw [← hwX]; refine app_state rfl (.tmp 220) (.tmp 223) rfl (v := .slice qv qs.length cv) (qs := qs) s rfl HMX.out.ip (b := w8.heap.size) rfl HX0.out ⟨by rw [HSD.out]; rfl, by rw [HSD.out]; rfl⟩ HLQ.out HMX.out.lt.2.2.2 ?_; intro vp' w9 ho9 hg9; have HM9 := Lib.hid (HMX.out.newPins ho9 HMX.out.ip hg9 HQX.out); have HY9 := Lib.hid (HYX.out.row state_off HMX.out.ip HP.out.b.1 hg9); clear ho9 hg9 hwX))
    | fail)
  have hb10 := sbox1 w9 (.cells #[.int .i64 (X.g : Int)] 3)
  have hma := HM9.out.below hb10
  have hya := HY9.out.on hb10
  have hm10 := hma.newGens HO10.out hma.ig HG10.out (fun z hz => by
    rcases hz with rfl | rfl | hz
    · exact ⟨hma.od.2.2, off_app hma.ad.1 hma.od.2.2 HW10.out⟩
    · exact ⟨hma.on, off_app hma.an.1 hma.on HW10.out⟩
    · exact ⟨(hma.oq z hz).2.2, off_app (hma.aq z hz).1 (hma.oq z hz).2.2 HW10.out⟩) (off_app' hma.an.1 hma.og HW10.out)
  refine ⟨Y, _, _, qs ++ [s], gens ++ [(X.g : Int)], ⟨?_, hm10, HP.out.b, ?_⟩⟩
  · have h := hya.row (T := 3) (by decide) hma.ig HP.out.b.1 HG10.out
    rw [List.map_append, show [s].map HS.ps = [dps] by rw [HSD.out]; rfl]
    exact h
  · have := hl3
    dsimp only
    rw [List.length_append, List.length_singleton]
    omega

end Go.Proofs.YtmlnpgbnbchbkaaDoor
