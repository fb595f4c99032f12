/-
  PagerHolds: an act of kind 0.
-/
import Derived.Test.YtmlnpgbnbchbkaaDoorH34
import Derived.Test.YtmlnpgbnbchbkaaDoorGrHLay
import Derived.LoopTactic
import Derived.Deep.LoopGhost
import Derived.Deep.CutBlock
import Derived.Deep.CutRange
import Derived.Deep.RegionHeld3
import Derived.Deep.RegionLaw
set_option linter.unusedVariables false
set_option linter.unusedSimpArgs false
set_option maxRecDepth 100000
namespace Go.Proofs.YtmlnpgbnbchbkaaDoor
open Go.RowKit

set_option maxHeartbeats 25600000 in
theorem kind_0 {w w3 : World} (HT : Hid (Tab w)) {kq : Option Addr} {kn kc : Nat} {keep : List Int} (HK : Hid (Ks w kq keep)) (HKN : Hid (kn = keep.length)) (hkm : kn ≤ 9223372036854775807) {N : Nat} (hN : N ≤ 31) {P p bd i m : Nat} (HLT : LtN i m) (HLT2 : LtN i 80) (i0 : (0 : Int) ≤ (i : Int)) (i2 : (i : Int) < 80) {bw : Nat} {u12 u13 : Value} (HI3 : Hid (PHE w w3 (4 + (N : Int)) P p (bd + 2) bd (bd + 1) i u12 u13)) (HW3 : Hid (Below w.heap.size w w3)) {kk : Int} {bq : Option Addr} {bn bc : Nat} (HPB : Hid (w3.heap[bw]? = some (.cells #[.int .i64 (0), .int .i64 kk, .slice bq bn bc] 39 (0, 0)))) {bl : List UInt8} (HBS : Hid (Bs w bq bl)) (HBN : Hid (bn = bl.length)) (h6 : bn ≤ 493) (hbc : Hid (bn ≤ bc ∧ bc ≤ 9223372036854775807)) {c1 c3 c4 c5 c8 c24 c25 c26 c27 c28 c29 c30 c31 c32 c33 c34 c35 c36 c37 c38 c39 c40 c41 c42 c43 c44 c45 c46 c47 c48 c49 c50 c51 c52 c53 c54 c333 c334 c335 c336 u6 u16 u17 u18 u19 u20 u21 u22 u23 u55 u56 u57 u58 u59 u60 u61 u62 u63 u64 u65 u66 u67 u68 u69 u70 u71 u72 u73 u74 u75 u76 u77 u78 u79 u80 u81 u82 u83 u84 u85 u86 u87 u88 u89 u90 u91 u92 u93 u94 u95 u96 u97 u98 u99 u100 u101 u102 u103 u104 u105 u106 u107 u108 u109 u110 u111 u112 u113 u114 u115 u116 u117 u118 u119 u120 u121 u122 u123 u124 u125 u126 u127 u128 u129 u130 u131 u132 u133 u134 u135 u136 u137 u138 u139 u140 u141 u142 u143 u144 u145 u146 u147 u148 u149 u150 u151 u152 u153 u154 u155 u156 u157 u158 u159 u160 u161 u162 u163 u164 u165 u166 u167 u168 u169 u170 u171 u172 u173 u174 u175 u176 u177 u178 u179 u180 u181 u182 u183 u184 u185 u186 u187 u188 u189 u190 u191 u192 u193 u194 u195 u196 u197 u198 u199 u200 u201 u202 u203 u204 u205 u206 u207 u208 u209 u210 u211 u212 u213 u214 u215 u216 u217 u218 u219 u220 u221 u222 u223 u224 u225 u226 u227 u228 u229 u230 u231 u232 u233 u234 u235 u236 u237 u238 u239 u240 u241 u242 u243 u244 u245 u246 u247 u248 u249 u250 u251 u252 u253 u254 u255 u256 u257 u258 u259 u260 u261 u262 u263 u264 u265 u266 u267 u268 u269 u270 u271 u272 u273 u274 u275 u276 u277 u278 u279 u280 u281 u282 u283 u284 u285 u286 u287 u288 u289 u290 u291 u292 u293 u294 u295 u296 u297 u298 u299 u300 u301 u302 u303 u304 u305 u306 u307 u308 u309 u310 u311 u312 u313 u314 u315 u316 u317 u318 u319 u320 u321 u322 u323 u324 u325 u326 u327 u328 u329 u330 u331 u332 : Value} {K0 K1 K2 K3 : Act → World → Prop} (hm : ∀ (v12 v13 v6 v16 v17 v18 v19 v20 v21 v22 v55 v56 v57 v58 v59 v60 v61 v62 v63 v64 v65 v66 v67 v68 v69 v70 v71 v72 v73 v74 v75 v76 v77 v78 v79 v80 v81 v82 v83 v84 v85 v86 v87 v88 v89 v90 v91 v92 v93 v94 v95 v96 v97 v98 v99 v100 v101 v102 v103 v104 v105 v106 v107 v108 v109 v110 v111 v112 v113 v114 v115 v116 v117 v118 v119 v120 v121 v122 v123 v124 v125 v126 v127 v128 v129 v130 v131 v132 v133 v134 v135 v136 v137 v138 v139 v140 v141 v142 v143 v144 v145 v146 v147 v148 v149 v150 v151 v152 v153 v154 v155 v156 v157 v158 v159 v160 v161 v162 v163 v164 v165 v166 v167 v168 v169 v170 v171 v172 v173 v174 v175 v176 v177 v178 v179 v180 v181 v182 v183 v184 v185 v186 v187 v188 v189 v190 v191 v192 v193 v194 v195 v196 v197 v198 v199 v200 v201 v202 v203 v204 v205 v206 v207 v208 v209 v210 v211 v212 v213 v214 v215 v216 v217 v218 v219 v220 v221 v222 v223 v224 v225 v226 v227 v228 v229 v230 v231 v232 v233 v234 v235 v236 v237 v238 v239 v240 v241 v242 v243 v244 v245 v246 v247 v248 v249 v250 v251 v252 v253 v254 v255 v256 v257 v258 v259 v260 v261 v262 v263 v264 v265 v266 v267 v268 v269 v270 v271 v272 v273 v274 v275 v276 v277 v278 v279 v280 v281 v282 v283 v284 v285 v286 v287 v288 v289 v290 v291 v292 v293 v294 v295 v296 v297 v298 v299 v300 v301 v302 v303 v304 v305 v306 v307 v308 v309 v310 v311 v312 v313 v314 v315 v316 v317 v318 v319 v320 v321 v322 v323 v324 v325 v326 v327 v328 v329 v330 v331 v332 : Value) (wx : World), PHE w wx (4 + (N : Int)) P p (bd + 2) bd (bd + 1) (i + 1) v12 v13 → K0 ⟨#[.int .i64 (4 + (N : Int)), c1, .slice kq kn kc, c3, c4, c5, v6, .pointer (some ⟨p, 0, none⟩), c8, .pointer (some ⟨P, 0, none⟩), .pointer (some ⟨bd, 0, none⟩), .pointer (some ⟨bd + 1, 0, none⟩), v12, v13, .int .i64 (i : Int), .pointer (some ⟨bw, 0, none⟩), v16, v17, v18, v19, v20, v21, v22, u23, c24, c25, c26, c27, c28, c29, c30, c31, c32, c33, c34, c35, c36, c37, c38, c39, c40, c41, c42, c43, c44, c45, c46, c47, c48, c49, c50, c51, c52, c53, c54, v55, v56, v57, v58, v59, v60, v61, v62, v63, v64, v65, v66, v67, v68, v69, v70, v71, v72, v73, v74, v75, v76, v77, v78, v79, v80, v81, v82, v83, v84, v85, v86, v87, v88, v89, v90, v91, v92, v93, v94, v95, v96, v97, v98, v99, v100, v101, v102, v103, v104, v105, v106, v107, v108, v109, v110, v111, v112, v113, v114, v115, v116, v117, v118, v119, v120, v121, v122, v123, v124, v125, v126, v127, v128, v129, v130, v131, v132, v133, v134, v135, v136, v137, v138, v139, v140, v141, v142, v143, v144, v145, v146, v147, v148, v149, v150, v151, v152, v153, v154, v155, v156, v157, v158, v159, v160, v161, v162, v163, v164, v165, v166, v167, v168, v169, v170, v171, v172, v173, v174, v175, v176, v177, v178, v179, v180, v181, v182, v183, v184, v185, v186, v187, v188, v189, v190, v191, v192, v193, v194, v195, v196, v197, v198, v199, v200, v201, v202, v203, v204, v205, v206, v207, v208, v209, v210, v211, v212, v213, v214, v215, v216, v217, v218, v219, v220, v221, v222, v223, v224, v225, v226, v227, v228, v229, v230, v231, v232, v233, v234, v235, v236, v237, v238, v239, v240, v241, v242, v243, v244, v245, v246, v247, v248, v249, v250, v251, v252, v253, v254, v255, v256, v257, v258, v259, v260, v261, v262, v263, v264, v265, v266, v267, v268, v269, v270, v271, v272, v273, v274, v275, v276, v277, v278, v279, v280, v281, v282, v283, v284, v285, v286, v287, v288, v289, v290, v291, v292, v293, v294, v295, v296, v297, v298, v299, v300, v301, v302, v303, v304, v305, v306, v307, v308, v309, v310, v311, v312, v313, v314, v315, v316, v317, v318, v319, v320, v321, v322, v323, v324, v325, v326, v327, v328, v329, v330, v331, v332, c333, c334, c335, c336], []⟩ wx) (hm1 : ∀ (v12 v13 v6 v16 v17 v18 v19 v20 v21 v22 v23 v55 v56 v57 v58 v59 v60 v61 v62 v63 v64 v65 v66 v67 v68 v69 v70 v71 v72 v73 v74 v75 v76 v77 v78 v79 v80 v81 v82 v83 v84 v85 v86 v87 v88 v89 v90 v91 v92 v93 v94 v95 v96 v97 v98 v99 v100 v101 v102 v103 v104 v105 v106 v107 v108 v109 v110 v111 v112 v113 v114 v115 v116 v117 v118 v119 v120 v121 v122 v123 v124 v125 v126 v127 v128 v129 v130 v131 v132 v133 v134 v135 v136 v137 v138 v139 v140 v141 v142 v143 v144 v145 v146 v147 v148 v149 v150 v151 v152 v153 v154 v155 v156 v157 v158 v159 v160 v161 v162 v163 v164 v165 v166 v167 v168 v169 v170 v171 v172 v173 v174 v175 v176 v177 v178 v179 v180 v181 v182 v183 v184 v185 v186 v187 v188 v189 v190 v191 v192 v193 v194 v195 v196 v197 v198 v199 v200 v201 v202 v203 v204 v205 v206 v207 v208 v209 v210 v211 v212 v213 v214 v215 v216 v217 v218 v219 v220 v221 v222 v223 v224 v225 v226 v227 v228 v229 v230 v231 v232 v233 v234 v235 v236 v237 v238 v239 v240 v241 v242 v243 v244 v245 v246 v247 v248 v249 v250 v251 v252 v253 v254 v255 v256 v257 v258 v259 v260 v261 v262 v263 v264 v265 v266 v267 v268 v269 v270 v271 v272 v273 v274 v275 v276 v277 v278 v279 v280 v281 v282 v283 v284 v285 v286 v287 v288 v289 v290 v291 v292 v293 v294 v295 v296 v297 v298 v299 v300 v301 v302 v303 v304 v305 v306 v307 v308 v309 v310 v311 v312 v313 v314 v315 v316 v317 v318 v319 v320 v321 v322 v323 v324 v325 v326 v327 v328 v329 v330 v331 v332 : Value) (wx : World), PHE w wx (4 + (N : Int)) P p (bd + 2) bd (bd + 1) (i + 1) v12 v13 → K1 ⟨#[.int .i64 (4 + (N : Int)), c1, .slice kq kn kc, c3, c4, c5, v6, .pointer (some ⟨p, 0, none⟩), c8, .pointer (some ⟨P, 0, none⟩), .pointer (some ⟨bd, 0, none⟩), .pointer (some ⟨bd + 1, 0, none⟩), v12, v13, .int .i64 (i : Int), .pointer (some ⟨bw, 0, none⟩), v16, v17, v18, v19, v20, v21, v22, v23, c24, c25, c26, c27, c28, c29, c30, c31, c32, c33, c34, c35, c36, c37, c38, c39, c40, c41, c42, c43, c44, c45, c46, c47, c48, c49, c50, c51, c52, c53, c54, v55, v56, v57, v58, v59, v60, v61, v62, v63, v64, v65, v66, v67, v68, v69, v70, v71, v72, v73, v74, v75, v76, v77, v78, v79, v80, v81, v82, v83, v84, v85, v86, v87, v88, v89, v90, v91, v92, v93, v94, v95, v96, v97, v98, v99, v100, v101, v102, v103, v104, v105, v106, v107, v108, v109, v110, v111, v112, v113, v114, v115, v116, v117, v118, v119, v120, v121, v122, v123, v124, v125, v126, v127, v128, v129, v130, v131, v132, v133, v134, v135, v136, v137, v138, v139, v140, v141, v142, v143, v144, v145, v146, v147, v148, v149, v150, v151, v152, v153, v154, v155, v156, v157, v158, v159, v160, v161, v162, v163, v164, v165, v166, v167, v168, v169, v170, v171, v172, v173, v174, v175, v176, v177, v178, v179, v180, v181, v182, v183, v184, v185, v186, v187, v188, v189, v190, v191, v192, v193, v194, v195, v196, v197, v198, v199, v200, v201, v202, v203, v204, v205, v206, v207, v208, v209, v210, v211, v212, v213, v214, v215, v216, v217, v218, v219, v220, v221, v222, v223, v224, v225, v226, v227, v228, v229, v230, v231, v232, v233, v234, v235, v236, v237, v238, v239, v240, v241, v242, v243, v244, v245, v246, v247, v248, v249, v250, v251, v252, v253, v254, v255, v256, v257, v258, v259, v260, v261, v262, v263, v264, v265, v266, v267, v268, v269, v270, v271, v272, v273, v274, v275, v276, v277, v278, v279, v280, v281, v282, v283, v284, v285, v286, v287, v288, v289, v290, v291, v292, v293, v294, v295, v296, v297, v298, v299, v300, v301, v302, v303, v304, v305, v306, v307, v308, v309, v310, v311, v312, v313, v314, v315, v316, v317, v318, v319, v320, v321, v322, v323, v324, v325, v326, v327, v328, v329, v330, v331, v332, c333, c334, c335, c336], []⟩ wx) (h78 : u78 = .int .i64 (0)) : Code.wp Tryd.prog swC (Exit.then K0 (Exit.inBlock 1 (Exit.then K1 (Exit.then K2 (Exit.inBlock 0 (Exit.then K3 (bodyPost Tryd.prog Tryd.f3 fun e w' => e = .returned (.bool true) ∧ Below w.heap.size w w'))))))) ⟨#[.int .i64 (4 + (N : Int)), c1, .slice kq kn kc, c3, c4, c5, u6, .pointer (some ⟨p, 0, none⟩), c8, .pointer (some ⟨P, 0, none⟩), .pointer (some ⟨bd, 0, none⟩), .pointer (some ⟨bd + 1, 0, none⟩), u12, u13, .int .i64 (i : Int), .pointer (some ⟨bw, 0, none⟩), u16, u17, u18, u19, u20, u21, u22, u23, c24, c25, c26, c27, c28, c29, c30, c31, c32, c33, c34, c35, c36, c37, c38, c39, c40, c41, c42, c43, c44, c45, c46, c47, c48, c49, c50, c51, c52, c53, c54, u55, u56, u57, u58, u59, u60, u61, u62, u63, u64, u65, u66, u67, u68, u69, u70, u71, u72, u73, u74, u75, u76, u77, u78, u79, u80, u81, u82, u83, u84, u85, u86, u87, u88, u89, u90, u91, u92, u93, u94, u95, u96, u97, u98, u99, u100, u101, u102, u103, u104, u105, u106, u107, u108, u109, u110, u111, u112, u113, u114, u115, u116, u117, u118, u119, u120, u121, u122, u123, u124, u125, u126, u127, u128, u129, u130, u131, u132, u133, u134, u135, u136, u137, u138, u139, u140, u141, u142, u143, u144, u145, u146, u147, u148, u149, u150, u151, u152, u153, u154, u155, u156, u157, u158, u159, u160, u161, u162, u163, u164, u165, u166, u167, u168, u169, u170, u171, u172, u173, u174, u175, u176, u177, u178, u179, u180, u181, u182, u183, u184, u185, u186, u187, u188, u189, u190, u191, u192, u193, u194, u195, u196, u197, u198, u199, u200, u201, u202, u203, u204, u205, u206, u207, u208, u209, u210, u211, u212, u213, u214, u215, u216, u217, u218, u219, u220, u221, u222, u223, u224, u225, u226, u227, u228, u229, u230, u231, u232, u233, u234, u235, u236, u237, u238, u239, u240, u241, u242, u243, u244, u245, u246, u247, u248, u249, u250, u251, u252, u253, u254, u255, u256, u257, u258, u259, u260, u261, u262, u263, u264, u265, u266, u267, u268, u269, u270, u271, u272, u273, u274, u275, u276, u277, u278, u279, u280, u281, u282, u283, u284, u285, u286, u287, u288, u289, u290, u291, u292, u293, u294, u295, u296, u297, u298, u299, u300, u301, u302, u303, u304, u305, u306, u307, u308, u309, u310, u311, u312, u313, u314, u315, u316, u317, u318, u319, u320, u321, u322, u323, u324, u325, u326, u327, u328, u329, u330, u331, u332, c333, c334, c335, c336], []⟩ w3 := by
  subst h78
  conv => arg 2; whnf
  obtain ⟨X, ⟨d1, d2, dr, dps⟩, ⟨a1, a2, ar, aps⟩, qs, gens, hP⟩ := HI3.out
  have hbx := hP.boxes
  have s0 : w3.cell? ⟨bd, 0, none⟩ = some d1 := hbx.1.1
  have s1 : w3.cell? ⟨bd, 1, none⟩ = some d2 := hbx.1.2.1
  have s2 : w3.cell? ⟨bd, 2, none⟩ = some (.int .i64 dr) := hbx.1.2.2
  have t0 : w3.cell? ⟨bd + 1, 0, none⟩ = some a1 := hbx.2.1.1
  have t1 : w3.cell? ⟨bd + 1, 1, none⟩ = some a2 := hbx.2.1.2.1
  have t2 : w3.cell? ⟨bd + 1, 2, none⟩ = some (.int .i64 ar) := hbx.2.1.2.2
  have hbdl : bd < w3.heap.size := hbx.2.2.1
  have hbnl : bd + 1 < w3.heap.size := hbx.2.2.2
  clear hbx
  obtain ⟨q1, n1, c1, hv1, hn1, hn1c, hn1d⟩ := (show OwnI w3 (bd + 2) d1 (pnos dps) from hP.h.ad.1).lie.form
  obtain ⟨q2, n2, c2, hv2, hn2, hn2c, hn2d⟩ := (show OwnS w3 (bd + 2) d2 (pstr dps) from hP.h.ad.2).lie.form
  obtain ⟨r1, m1, e1, hv3, hm1, hm1c, hm1d⟩ := (show OwnI w3 (bd + 2) a1 (pnos aps) from hP.h.an.1).lie.form
  obtain ⟨r2, m2, e2, hv4, hm2, hm2c, hm2d⟩ := (show OwnS w3 (bd + 2) a2 (pstr aps) from hP.h.an.2).lie.form
  subst hv1 hv2 hv3 hv4
  replace hn1 := Lib.hid hn1
  replace hn2 := Lib.hid hn2
  replace hm1 := Lib.hid hm1
  replace hm2 := Lib.hid hm2
  have hP3 := hP
  have hactb : w3.cell? ⟨bw, 0, none⟩ = some (.int .i64 0) := (Joins.cell_of_block HPB.out 0).trans rfl
  have hactk : w3.cell? ⟨bw, 1, none⟩ = some (.int .i64 kk) := (Joins.cell_of_block HPB.out 1).trans rfl
  have hactl : w3.cell? ⟨bw, 2, none⟩ = some (.slice bq bn bc) := (Joins.cell_of_block HPB.out 2).trans rfl
  have hbwl : bw < w3.heap.size := (Array.getElem?_eq_some_iff.1 HPB.out).1
  have hl3 := hP.l
  dsimp only at hl3
  have HLAY := Lib.hid (hc_lay HT.out hP.c (by omega) (GBytes.arg HBS.out HW3.out) HBN.out hbc.out.1 hbc.out.2 h6)
  have HP := Lib.hid hP
  have hbwt := HPB.out
  have HNOTW : Hid (∀ w' : World, Keeps ofGr w3 w' → w'.heap[bw]? = some (.cells #[.int .i64 0, .int .i64 kk, .slice bq bn bc] 39 (0, 0))) := Lib.hid fun w' hk => hk.stay HPB.out (by
    show ((39 : TypeId) == 86 || (39 : TypeId) == 94 || (39 : TypeId) == 71 || (39 : TypeId) == 82) = false
    decide)
  clear hP hP3 hbwt
  try dsimp only
  go_wp2_with fail
  refine HLAY.out.mono ?_
  rintro e w6 ⟨hkp, ⟨k, rfl, Y, hY⟩ | ⟨er, rfl, her, hY⟩⟩
  · have HA0 := Lib.hid (HA.of HP.out.b hY (HP.out.h.keepsG hkp hkp.size))
    have HW6 := Lib.hid (HNOTW.out w6 hkp)
    obtain ⟨str, hstr⟩ : ∃ str : ByteArray, str = ⟨bl.toArray⟩ := ⟨_, rfl⟩
    have HSTR := Lib.hid hstr
    have HTT : Hid (∀ w', w'.heap[bw]? = some (.cells #[.int .i64 0, .int .i64 kk, .slice bq bn bc] 39 (0, 0)) → Below w.heap.size w w' → (w'.cell? ⟨bw, 2, none⟩ = some (.slice bq bn bc) ∧ (convert 37 9 (.slice bq bn bc)).run Tryd.prog w' = .ok (.string str) w')) := Lib.hid fun w' hb hw => ⟨(Joins.cell_of_block hb 2).trans rfl, by rw [HSTR.out]; exact str_of (HBS.out.below hw) HBN.out⟩
    have HLA : Hid ((pnos aps).length ≤ 1000 ∧ (pstr aps).length ≤ 1000) := Lib.hid (by simp [pnos, pstr]; omega)
    have HL3 := Lib.hid hl3
    clear hkp hY s0 s1 s2 t0 t1 t2 hactb hactk hactl hstr
    try dsimp only
    try dsimp only
    go_wp2_with fail
    have HBD6 := Lib.hid ((Below.refl w6.heap.size w6).drew)
    have HA1 := Lib.hid (HA0.out.below HBD6.out)
    have HW1 : Hid (w6.drew.heap[bw]? = some (.cells #[.int .i64 0, .int .i64 kk, .slice bq bn bc] 39 (0, 0))) := Lib.hid HW6.out
    have HSS : Hid (∀ {w' : World} {a1 a2 : Value} {l1 : List Int} {l2 : List ByteArray}, HA w w' (4 + (N : Int)) P p (bd + 2) bd (bd + 1) (i + 1) Y ⟨.slice q1 n1 c1, .slice q2 n2 c2, dr, dps⟩ ⟨.slice r1 m1 e1, .slice r2 m2 e2, ar, aps⟩ qs u12 u13 gens (aps ++ [⟨k, bl⟩]) a1 a2 l1 l2 → (w'.cell? ⟨bd + 1, 0, none⟩ = some (.slice r1 m1 e1) ∧ w'.cell? ⟨bd + 1, 1, none⟩ = some (.slice r2 m2 e2))) := Lib.hid fun h => ⟨(Joins.cell_of_block h.hn 0).trans rfl, (Joins.cell_of_block h.hn 1).trans rfl⟩
    refine wp_region_lastM_drew (S := fun w' => w'.cell? ⟨bd + 1, 0, none⟩ = some (.slice r1 m1 e1) ∧ w'.cell? ⟨bd + 1, 1, none⟩ = some (.slice r2 m2 e2)) (T := fun w' => w'.cell? ⟨bw, 2, none⟩ = some (.slice bq bn bc) ∧ (convert 37 9 (.slice bq bn bc)).run Tryd.prog w' = .ok (.string str) w') [7, 8, 9, 13, 14, 15] (by kernel_rfl) ⟨HSS.out HA1.out, HTT.out _ HW1.out HA1.out.c.m.below⟩ (fun hHT => ?_)
    obtain ⟨hHeld, hT⟩ := hHT
    refine wpAnyM_takeT (i := 7) (v := ?_) rfl (by kernel_rfl) (by kernel_rfl) (by kernel_rfl) (by kernel_rfl) (fun _ _ _ h => h) (Or.inl ⟨by rfl, ?_⟩) hT ?_
    rotate_left
    · intro w hSw; (try dsimp only at hSw); go_simp; try with_reducible rfl
    simp only [Act.put, List.getElem_toArray, List.getElem_cons_zero, List.getElem_cons_succ, List.setIfInBounds_toArray, List.set_cons_zero, List.set_cons_succ]
    refine wpAnyM_takeT (i := 8) (v := ?_) rfl (by kernel_rfl) (by kernel_rfl) (by kernel_rfl) (by kernel_rfl) (fun _ _ _ h => h) (Or.inl ⟨by rfl, ?_⟩) hT ?_
    rotate_left
    · intro w hSw; (try dsimp only at hSw); go_simp; try with_reducible rfl
    simp only [Act.put, List.getElem_toArray, List.getElem_cons_zero, List.getElem_cons_succ, List.setIfInBounds_toArray, List.set_cons_zero, List.set_cons_succ]
    refine wpAnyM_takeT (i := 9) (v := ?_) rfl (by kernel_rfl) (by kernel_rfl) (by kernel_rfl) (by kernel_rfl) (fun _ _ _ h => h) (Or.inl ⟨by rfl, ?_⟩) hT ?_
    rotate_left
    · intro w hSw; (try dsimp only at hSw); go_simp; try with_reducible rfl
    simp only [Act.put, List.getElem_toArray, List.getElem_cons_zero, List.getElem_cons_succ, List.setIfInBounds_toArray, List.set_cons_zero, List.set_cons_succ]
    refine wpAnyM_take (i := 0) (v := ?_) rfl (by kernel_rfl) (by kernel_rfl) (by kernel_rfl) (by kernel_rfl) (fun _ _ _ h => h) (Or.inl ⟨by rfl, ?_⟩) ⟨hHeld, hT⟩ ?_
    rotate_left
    · intro w hSw; (try dsimp only at hSw); go_simp; try with_reducible rfl
    simp only [Act.put, List.getElem_toArray, List.getElem_cons_zero, List.setIfInBounds_toArray, List.set_cons_zero, List.set_cons_succ]
    refine wpAnyM_take (i := 1) (v := ?_) rfl (by kernel_rfl) (by kernel_rfl) (by kernel_rfl) (by kernel_rfl) (fun _ _ _ h => h) (Or.inl ⟨by rfl, ?_⟩) ⟨hHeld, hT⟩ ?_
    rotate_left
    · intro w hSw; (try dsimp only at hSw); go_simp; try with_reducible rfl
    simp only [Act.put, List.getElem_toArray, List.getElem_cons_zero, List.getElem_cons_succ, List.setIfInBounds_toArray, List.set_cons_zero, List.set_cons_succ]
    refine wpAnyM_take (i := 2) (v := ?_) rfl (by kernel_rfl) (by kernel_rfl) (by kernel_rfl) (by kernel_rfl) (fun _ _ _ h => h) (Or.inl ⟨by rfl, ?_⟩) ⟨hHeld, hT⟩ ?_
    rotate_left
    · intro w hSw; (try dsimp only at hSw); go_simp; try with_reducible rfl
    simp only [Act.put, List.getElem_toArray, List.getElem_cons_zero, List.getElem_cons_succ, List.setIfInBounds_toArray, List.set_cons_zero, List.set_cons_succ]
    refine wpAnyM_take (i := 5) (v := ?_) rfl (by kernel_rfl) (by kernel_rfl) (by kernel_rfl) (by kernel_rfl) (fun _ _ _ h => h) (Or.inl ⟨by rfl, ?_⟩) ⟨hHeld, hT⟩ ?_
    rotate_left
    · intro w hSw; (try dsimp only at hSw); go_simp; try with_reducible rfl
    simp only [Act.put, List.getElem_toArray, List.getElem_cons_zero, List.getElem_cons_succ, List.setIfInBounds_toArray, List.set_cons_zero, List.set_cons_succ]
    refine wpAnyM_take (i := 6) (v := ?_) rfl (by kernel_rfl) (by kernel_rfl) (by kernel_rfl) (by kernel_rfl) (fun _ _ _ h => h) (Or.inl ⟨by rfl, ?_⟩) ⟨hHeld, hT⟩ ?_
    rotate_left
    · intro w hSw; (try dsimp only at hSw); go_simp; try with_reducible rfl
    simp only [Act.put, List.getElem_toArray, List.getElem_cons_zero, List.getElem_cons_succ, List.setIfInBounds_toArray, List.set_cons_zero, List.set_cons_succ]
    obtain ⟨u, hu⟩ : ∃ u, u = w6.drew := ⟨_, rfl⟩
    rw [← hu] at hHeld hT HA1 HW1 ⊢
    clear hu
    refine wpAnyM_ready (rs := [3, 10]) (by kernel_rfl) (by simp) ?_
    refine AllReadyM.cons rfl (fun K hK => ?_) (AllReadyM.cons rfl (fun K hK => ?_) AllReadyM.nil)
    · skip
      go_simp
      try dsimp only
      obtain ⟨u1_, hu1_⟩ : ∃ u1_, u1_ = u.alloc (.cells #[.int .i64 (k : Int)] 3) := ⟨_, rfl⟩
      rw [← hu1_]
      have HS1 : Hid (Below u.heap.size u u1_) := Lib.hid (by rw [hu1_]; exact sbox1 _ _)
      have HA1_ := Lib.hid (HA1.out.below HS1.out)
      have HW1_ : Hid (u1_.heap[bw]? = some (.cells #[.int .i64 0, .int .i64 kk, .slice bq bn bc] 39 (0, 0))) := Lib.hid ((HS1.out.block _ (Array.getElem?_eq_some_iff.1 HW1.out).1).trans HW1.out)
      have HE1 : Hid (u1_.heap[u.heap.size]? = some (.cells #[.int .i64 (k : Int)] 3 (0, 0))) := Lib.hid (by rw [hu1_]; exact heap_alloc_new _ _)
      clear hu1_
      refine hK.out _ _ ⟨fun _ => HSS.out HA1_.out, HTT.out _ HW1_.out HA1_.out.c.m.below⟩ (fun hHeld hT => ?_)
      replace hHeld := hHeld rfl
      clear hK K
      try simp only [Act.put, List.getElem_toArray, List.getElem_cons_zero, List.getElem_cons_succ, List.setIfInBounds_toArray, List.set_cons_zero, List.set_cons_succ]
      refine wpAnyM_ready (rs := [4, 10]) (by kernel_rfl) (by simp) ?_
      refine AllReadyM.cons rfl (fun K hK => ?_) (AllReadyM.cons rfl (fun K hK => ?_) AllReadyM.nil)
      · skip
        refine step_oneI (B := bd + 2) (v := (.slice r1 m1 e1)) (l := (pnos aps)) (y := (k : Int)) rfl (.tmp 91) (.tmp 93) rfl (by kernel_rfl) HA1_.out.i1 (b := u.heap.size) (c := 1) (by kernel_rfl) ((Joins.cell_of_block HE1.out 0).trans rfl) (by have := HLA.out; omega) HA1_.out.lt.2.2.2 ?_
        intro v2_ u2_ ho hg hwh
        have HA2_ := Lib.hid (HA1_.out.app1 ho hg hwh)
        have HW2_ : Hid (u2_.heap[bw]? = some (.cells #[.int .i64 0, .int .i64 kk, .slice bq bn bc] 39 (0, 0))) := Lib.hid (box_kept HW1_.out HA1_.out.i1 (by decide) hg)
        clear ho hg hwh
        refine hK.out _ _ ⟨fun _ => HSS.out HA2_.out, HTT.out _ HW2_.out HA2_.out.c.m.below⟩ (fun hHeld hT => ?_)
        replace hHeld := hHeld rfl
        clear hK K
        try simp only [Act.put, List.getElem_toArray, List.getElem_cons_zero, List.getElem_cons_succ, List.setIfInBounds_toArray, List.set_cons_zero, List.set_cons_succ]
        refine wpAnyM_take (i := 12) (v := ?_) rfl (by kernel_rfl) (by kernel_rfl) (by kernel_rfl) (by kernel_rfl) (fun _ _ _ h => h) (Or.inl ⟨by rfl, ?_⟩) ⟨hHeld, hT⟩ ?_
        rotate_left
        · intro w hSw; (try dsimp only at hSw); go_simp; try with_reducible rfl
        simp only [Act.put, List.getElem_toArray, List.getElem_cons_zero, List.getElem_cons_succ, List.setIfInBounds_toArray, List.set_cons_zero, List.set_cons_succ]
        refine wpAnyM_ready (rs := [10]) (by kernel_rfl) (by simp) ?_
        refine AllReadyM.cons rfl (fun K hK => ?_) AllReadyM.nil
        go_simp
        try dsimp only
        obtain ⟨u3_, hu3_⟩ : ∃ u3_, u3_ = u2_.alloc (.cells #[.string str] 9) := ⟨_, rfl⟩
        rw [← hu3_]
        have HS3 : Hid (Below u2_.heap.size u2_ u3_) := Lib.hid (by rw [hu3_]; exact sbox1 _ _)
        have HA3_ := Lib.hid (HA2_.out.below HS3.out)
        have HW3_ : Hid (u3_.heap[bw]? = some (.cells #[.int .i64 0, .int .i64 kk, .slice bq bn bc] 39 (0, 0))) := Lib.hid ((HS3.out.block _ (Array.getElem?_eq_some_iff.1 HW2_.out).1).trans HW2_.out)
        have HE3 : Hid (u3_.heap[u2_.heap.size]? = some (.cells #[.string str] 9 (0, 0))) := Lib.hid (by rw [hu3_]; exact heap_alloc_new _ _)
        clear hu3_
        refine hK.out _ _ ⟨fun _ => HSS.out HA3_.out, HTT.out _ HW3_.out HA3_.out.c.m.below⟩ (fun hHeld hT => ?_)
        replace hHeld := hHeld rfl
        clear hK K
        try simp only [Act.put, List.getElem_toArray, List.getElem_cons_zero, List.getElem_cons_succ, List.setIfInBounds_toArray, List.set_cons_zero, List.set_cons_succ]
        refine wpAnyM_ready (rs := [11]) (by kernel_rfl) (by simp) ?_
        refine AllReadyM.cons rfl (fun K hK => ?_) AllReadyM.nil
        refine step_oneS (B := bd + 2) (v := (.slice r2 m2 e2)) (l := (pstr aps)) (y := str) rfl (.tmp 96) (.tmp 100) rfl (by kernel_rfl) HA3_.out.i2 (b := u2_.heap.size) (c := 1) (by kernel_rfl) ((Joins.cell_of_block HE3.out 0).trans rfl) (by have := HLA.out; omega) HA3_.out.lt.2.2.2 ?_
        intro v4_ u4_ ho hg hwh
        have HA4_ := Lib.hid (HA3_.out.app2 ho hg hwh)
        have HW4_ : Hid (u4_.heap[bw]? = some (.cells #[.int .i64 0, .int .i64 kk, .slice bq bn bc] 39 (0, 0))) := Lib.hid (box_kept HW3_.out HA3_.out.i2 (by decide) hg)
        clear ho hg hwh
        refine hK.out _ _ ⟨fun _ => HSS.out HA4_.out, HTT.out _ HW4_.out HA4_.out.c.m.below⟩ (fun hHeld hT => ?_)
        replace hHeld := hHeld rfl
        clear hK K
        try simp only [Act.put, List.getElem_toArray, List.getElem_cons_zero, List.getElem_cons_succ, List.setIfInBounds_toArray, List.set_cons_zero, List.set_cons_succ]
        have HF := Lib.hid (show HA w u4_ (4 + (N : Int)) P p (bd + 2) bd (bd + 1) (i + 1) Y ⟨.slice q1 n1 c1, .slice q2 n2 c2, dr, dps⟩ ⟨.slice r1 m1 e1, .slice r2 m2 e2, ar, aps⟩ qs u12 u13 gens (aps ++ [⟨k, bl⟩]) v2_ v4_ (pnos (aps ++ [⟨k, bl⟩])) (pstr (aps ++ [⟨k, bl⟩])) by
          have h := HA4_.out
          rw [show pnos (aps ++ [⟨k, bl⟩]) = pnos aps ++ [(k : Int)] by simp [pnos], show pstr (aps ++ [⟨k, bl⟩]) = pstr aps ++ [str] by rw [HSTR.out]; simp [pstr]]
          exact h)
        have HFN := Lib.hid (HF.out.done_ ar (by have := HL3.out; dsimp only; rw [List.length_append, List.length_singleton]; omega))
        obtain ⟨p1, d1, hp1, _⟩ := HF.out.i1.lie
        obtain ⟨p2, d2, hp2, _⟩ := HF.out.i2.lie
        obtain ⟨z1, hz1⟩ : ∃ z, z = (pnos (aps ++ [⟨k, bl⟩])).length := ⟨_, rfl⟩
        obtain ⟨z2, hz2⟩ : ∃ z, z = (pstr (aps ++ [⟨k, bl⟩])).length := ⟨_, rfl⟩
        rw [← hz1] at hp1
        rw [← hz2] at hp2
        subst hp1 hp2
        clear hz1 hz2
        have HBN6 := Lib.hid (show u4_.heap[bd + 1]? = some (.cells #[.slice r1 m1 e1, .slice r2 m2 e2, .int .i64 ar] 35 (0, 0)) from HA4_.out.hn)
        have HTS : Hid (∀ cs w', w' = u4_.setRow (bd + 1) cs → (w'.cell? ⟨bw, 2, none⟩ = some (.slice bq bn bc) ∧ (convert 37 9 (.slice bq bn bc)).run Tryd.prog w' = .ok (.string str) w')) := Lib.hid fun cs w' hw => by
          subst hw
          exact HTT.out _ ((setRow_other _ _ _ _ (by intro e; have h1 := HW4_.out; rw [e, HBN6.out] at h1; exact absurd h1 (by simp))).trans HW4_.out) (HA4_.out.c.box HBN6.out HA4_.out.b.2.2 _).m.below
        have x0 := (Joins.cell_of_block HBN6.out 0).trans rfl
        have y0 := Joins.unfrozen_of_block HBN6.out 0
        have hbl := (Array.getElem?_eq_some_iff.1 HBN6.out).1
        refine wpAnyM_ready (rs := [13]) (by kernel_rfl) (by simp) ?_
        refine AllReadyM.cons rfl (fun K hK => ?_) AllReadyM.nil
        go_simp
        try dsimp only
        obtain ⟨x, hx⟩ : ∃ x, x = u4_.setCell ⟨bd + 1, 0, none⟩ (.slice p1 z1 d1) := ⟨_, rfl⟩
        rw [← hx]
        have HX : Hid (x = u4_.setRow (bd + 1) #[.slice p1 z1 d1, .slice r2 m2 e2, .int .i64 ar]) := Lib.hid (by rw [hx]; exact set0_row HBN6.out)
        clear hx x0 y0
        refine hK.out _ _ ⟨fun h => absurd h (by decide), HTS.out _ _ HX.out⟩ (fun _ hT => ?_)
        clear hK K
        try simp only [Act.put, List.getElem_toArray, List.getElem_cons_zero, List.getElem_cons_succ, List.setIfInBounds_toArray, List.set_cons_zero, List.set_cons_succ]
        refine wpAnyM_takeT (i := 14) (v := ?_) rfl (by kernel_rfl) (by kernel_rfl) (by kernel_rfl) (by kernel_rfl) (fun _ _ _ h => h) (Or.inl ⟨by rfl, ?_⟩) hT ?_
        rotate_left
        · intro w hSw; (try dsimp only at hSw); go_simp; try with_reducible rfl
        simp only [Act.put, List.getElem_toArray, List.getElem_cons_zero, List.getElem_cons_succ, List.setIfInBounds_toArray, List.set_cons_zero, List.set_cons_succ]
        have HBN7 : Hid (x.heap[bd + 1]? = some (.cells #[.slice p1 z1 d1, .slice r2 m2 e2, .int .i64 ar] 35 (0, 0))) := Lib.hid (by rw [HX.out]; exact setRow_heap _ _ _ _ _ _ HBN6.out)
        have x1 := (Joins.cell_of_block HBN7.out 1).trans rfl
        have y1 := Joins.unfrozen_of_block HBN7.out 1
        have hbl7 := (Array.getElem?_eq_some_iff.1 HBN7.out).1
        refine wpAnyM_ready (rs := [15]) (by kernel_rfl) (by simp) ?_
        refine AllReadyM.cons rfl (fun K hK => ?_) AllReadyM.nil
        go_simp
        try dsimp only
        obtain ⟨x2, hx2⟩ : ∃ x2, x2 = x.setCell ⟨bd + 1, 1, none⟩ (.slice p2 z2 d2) := ⟨_, rfl⟩
        rw [← hx2]
        have HX2 : Hid (x2 = u4_.setRow (bd + 1) #[.slice p1 z1 d1, .slice p2 z2 d2, .int .i64 ar]) := Lib.hid (by rw [hx2, set01_row HBN7.out, HX.out]; exact setRow_twice _ _ _ _)
        clear hx2 x1 y1
        refine hK.out _ _ ⟨fun h => absurd h (by decide), HTS.out _ _ HX2.out⟩ (fun _ hT => ?_)
        clear hK K
        try simp only [Act.put, List.getElem_toArray, List.getElem_cons_zero, List.getElem_cons_succ, List.setIfInBounds_toArray, List.set_cons_zero, List.set_cons_succ]
        refine wpAnyM_done (by kernel_rfl) ?_ _
        have HPN : Hid (PHE w x2 (4 + (N : Int)) P p (bd + 2) bd (bd + 1) (i + 1) u12 u13) := Lib.hid (by rw [HX2.out]; exact ⟨Y, _, _, qs, gens, HFN.out⟩)
        try dsimp only
        go_wp2_with fail
        first | exact HPN.out | (apply hm; exact HPN.out)
      · skip
        go_simp
        try dsimp only
        obtain ⟨u5_, hu5_⟩ : ∃ u5_, u5_ = u1_.alloc (.cells #[.string str] 9) := ⟨_, rfl⟩
        rw [← hu5_]
        have HS5 : Hid (Below u1_.heap.size u1_ u5_) := Lib.hid (by rw [hu5_]; exact sbox1 _ _)
        have HA5_ := Lib.hid (HA1_.out.below HS5.out)
        have HW5_ : Hid (u5_.heap[bw]? = some (.cells #[.int .i64 0, .int .i64 kk, .slice bq bn bc] 39 (0, 0))) := Lib.hid ((HS5.out.block _ (Array.getElem?_eq_some_iff.1 HW1_.out).1).trans HW1_.out)
        have HE5 : Hid (u5_.heap[u1_.heap.size]? = some (.cells #[.string str] 9 (0, 0))) := Lib.hid (by rw [hu5_]; exact heap_alloc_new _ _)
        clear hu5_
        have HG5 : Hid (u5_.heap[u.heap.size]? = some (.cells #[.int .i64 (k : Int)] 3 (0, 0))) := Lib.hid ((HS5.out.block _ (Array.getElem?_eq_some_iff.1 HE1.out).1).trans HE1.out)
        refine hK.out _ _ ⟨fun _ => HSS.out HA5_.out, HTT.out _ HW5_.out HA5_.out.c.m.below⟩ (fun hHeld hT => ?_)
        replace hHeld := hHeld rfl
        clear hK K
        try simp only [Act.put, List.getElem_toArray, List.getElem_cons_zero, List.getElem_cons_succ, List.setIfInBounds_toArray, List.set_cons_zero, List.set_cons_succ]
        refine wpAnyM_ready (rs := [4]) (by kernel_rfl) (by simp) ?_
        refine AllReadyM.cons rfl (fun K hK => ?_) AllReadyM.nil
        refine step_oneI (B := bd + 2) (v := (.slice r1 m1 e1)) (l := (pnos aps)) (y := (k : Int)) rfl (.tmp 91) (.tmp 93) rfl (by kernel_rfl) HA5_.out.i1 (b := u.heap.size) (c := 1) (by kernel_rfl) ((Joins.cell_of_block HG5.out 0).trans rfl) (by have := HLA.out; omega) HA5_.out.lt.2.2.2 ?_
        intro v6_ u6_ ho hg hwh
        have HA6_ := Lib.hid (HA5_.out.app1 ho hg hwh)
        have HW6_ : Hid (u6_.heap[bw]? = some (.cells #[.int .i64 0, .int .i64 kk, .slice bq bn bc] 39 (0, 0))) := Lib.hid (box_kept HW5_.out HA5_.out.i1 (by decide) hg)
        have HG6 : Hid (u6_.heap[u1_.heap.size]? = some (.cells #[.string str] 9 (0, 0))) := Lib.hid (box_kept HE5.out HA5_.out.i1 (by decide) hg)
        clear ho hg hwh
        refine hK.out _ _ ⟨fun _ => HSS.out HA6_.out, HTT.out _ HW6_.out HA6_.out.c.m.below⟩ (fun hHeld hT => ?_)
        replace hHeld := hHeld rfl
        clear hK K
        try simp only [Act.put, List.getElem_toArray, List.getElem_cons_zero, List.getElem_cons_succ, List.setIfInBounds_toArray, List.set_cons_zero, List.set_cons_succ]
        refine wpAnyM_take (i := 12) (v := ?_) rfl (by kernel_rfl) (by kernel_rfl) (by kernel_rfl) (by kernel_rfl) (fun _ _ _ h => h) (Or.inl ⟨by rfl, ?_⟩) ⟨hHeld, hT⟩ ?_
        rotate_left
        · intro w hSw; (try dsimp only at hSw); go_simp; try with_reducible rfl
        simp only [Act.put, List.getElem_toArray, List.getElem_cons_zero, List.getElem_cons_succ, List.setIfInBounds_toArray, List.set_cons_zero, List.set_cons_succ]
        refine wpAnyM_ready (rs := [11]) (by kernel_rfl) (by simp) ?_
        refine AllReadyM.cons rfl (fun K hK => ?_) AllReadyM.nil
        refine step_oneS (B := bd + 2) (v := (.slice r2 m2 e2)) (l := (pstr aps)) (y := str) rfl (.tmp 96) (.tmp 100) rfl (by kernel_rfl) HA6_.out.i2 (b := u1_.heap.size) (c := 1) (by kernel_rfl) ((Joins.cell_of_block HG6.out 0).trans rfl) (by have := HLA.out; omega) HA6_.out.lt.2.2.2 ?_
        intro v7_ u7_ ho hg hwh
        have HA7_ := Lib.hid (HA6_.out.app2 ho hg hwh)
        have HW7_ : Hid (u7_.heap[bw]? = some (.cells #[.int .i64 0, .int .i64 kk, .slice bq bn bc] 39 (0, 0))) := Lib.hid (box_kept HW6_.out HA6_.out.i2 (by decide) hg)
        clear ho hg hwh
        refine hK.out _ _ ⟨fun _ => HSS.out HA7_.out, HTT.out _ HW7_.out HA7_.out.c.m.below⟩ (fun hHeld hT => ?_)
        replace hHeld := hHeld rfl
        clear hK K
        try simp only [Act.put, List.getElem_toArray, List.getElem_cons_zero, List.getElem_cons_succ, List.setIfInBounds_toArray, List.set_cons_zero, List.set_cons_succ]
        have HF := Lib.hid (show HA w u7_ (4 + (N : Int)) P p (bd + 2) bd (bd + 1) (i + 1) Y ⟨.slice q1 n1 c1, .slice q2 n2 c2, dr, dps⟩ ⟨.slice r1 m1 e1, .slice r2 m2 e2, ar, aps⟩ qs u12 u13 gens (aps ++ [⟨k, bl⟩]) v6_ v7_ (pnos (aps ++ [⟨k, bl⟩])) (pstr (aps ++ [⟨k, bl⟩])) by
          have h := HA7_.out
          rw [show pnos (aps ++ [⟨k, bl⟩]) = pnos aps ++ [(k : Int)] by simp [pnos], show pstr (aps ++ [⟨k, bl⟩]) = pstr aps ++ [str] by rw [HSTR.out]; simp [pstr]]
          exact h)
        have HFN := Lib.hid (HF.out.done_ ar (by have := HL3.out; dsimp only; rw [List.length_append, List.length_singleton]; omega))
        obtain ⟨p1, d1, hp1, _⟩ := HF.out.i1.lie
        obtain ⟨p2, d2, hp2, _⟩ := HF.out.i2.lie
        obtain ⟨z1, hz1⟩ : ∃ z, z = (pnos (aps ++ [⟨k, bl⟩])).length := ⟨_, rfl⟩
        obtain ⟨z2, hz2⟩ : ∃ z, z = (pstr (aps ++ [⟨k, bl⟩])).length := ⟨_, rfl⟩
        rw [← hz1] at hp1
        rw [← hz2] at hp2
        subst hp1 hp2
        clear hz1 hz2
        have HBN6 := Lib.hid (show u7_.heap[bd + 1]? = some (.cells #[.slice r1 m1 e1, .slice r2 m2 e2, .int .i64 ar] 35 (0, 0)) from HA7_.out.hn)
        have HTS : Hid (∀ cs w', w' = u7_.setRow (bd + 1) cs → (w'.cell? ⟨bw, 2, none⟩ = some (.slice bq bn bc) ∧ (convert 37 9 (.slice bq bn bc)).run Tryd.prog w' = .ok (.string str) w')) := Lib.hid fun cs w' hw => by
          subst hw
          exact HTT.out _ ((setRow_other _ _ _ _ (by intro e; have h1 := HW7_.out; rw [e, HBN6.out] at h1; exact absurd h1 (by simp))).trans HW7_.out) (HA7_.out.c.box HBN6.out HA7_.out.b.2.2 _).m.below
        have x0 := (Joins.cell_of_block HBN6.out 0).trans rfl
        have y0 := Joins.unfrozen_of_block HBN6.out 0
        have hbl := (Array.getElem?_eq_some_iff.1 HBN6.out).1
        refine wpAnyM_ready (rs := [13]) (by kernel_rfl) (by simp) ?_
        refine AllReadyM.cons rfl (fun K hK => ?_) AllReadyM.nil
        go_simp
        try dsimp only
        obtain ⟨x, hx⟩ : ∃ x, x = u7_.setCell ⟨bd + 1, 0, none⟩ (.slice p1 z1 d1) := ⟨_, rfl⟩
        rw [← hx]
        have HX : Hid (x = u7_.setRow (bd + 1) #[.slice p1 z1 d1, .slice r2 m2 e2, .int .i64 ar]) := Lib.hid (by rw [hx]; exact set0_row HBN6.out)
        clear hx x0 y0
        refine hK.out _ _ ⟨fun h => absurd h (by decide), HTS.out _ _ HX.out⟩ (fun _ hT => ?_)
        clear hK K
        try simp only [Act.put, List.getElem_toArray, List.getElem_cons_zero, List.getElem_cons_succ, List.setIfInBounds_toArray, List.set_cons_zero, List.set_cons_succ]
        refine wpAnyM_takeT (i := 14) (v := ?_) rfl (by kernel_rfl) (by kernel_rfl) (by kernel_rfl) (by kernel_rfl) (fun _ _ _ h => h) (Or.inl ⟨by rfl, ?_⟩) hT ?_
        rotate_left
        · intro w hSw; (try dsimp only at hSw); go_simp; try with_reducible rfl
        simp only [Act.put, List.getElem_toArray, List.getElem_cons_zero, List.getElem_cons_succ, List.setIfInBounds_toArray, List.set_cons_zero, List.set_cons_succ]
        have HBN7 : Hid (x.heap[bd + 1]? = some (.cells #[.slice p1 z1 d1, .slice r2 m2 e2, .int .i64 ar] 35 (0, 0))) := Lib.hid (by rw [HX.out]; exact setRow_heap _ _ _ _ _ _ HBN6.out)
        have x1 := (Joins.cell_of_block HBN7.out 1).trans rfl
        have y1 := Joins.unfrozen_of_block HBN7.out 1
        have hbl7 := (Array.getElem?_eq_some_iff.1 HBN7.out).1
        refine wpAnyM_ready (rs := [15]) (by kernel_rfl) (by simp) ?_
        refine AllReadyM.cons rfl (fun K hK => ?_) AllReadyM.nil
        go_simp
        try dsimp only
        obtain ⟨x2, hx2⟩ : ∃ x2, x2 = x.setCell ⟨bd + 1, 1, none⟩ (.slice p2 z2 d2) := ⟨_, rfl⟩
        rw [← hx2]
        have HX2 : Hid (x2 = u7_.setRow (bd + 1) #[.slice p1 z1 d1, .slice p2 z2 d2, .int .i64 ar]) := Lib.hid (by rw [hx2, set01_row HBN7.out, HX.out]; exact setRow_twice _ _ _ _)
        clear hx2 x1 y1
        refine hK.out _ _ ⟨fun h => absurd h (by decide), HTS.out _ _ HX2.out⟩ (fun _ hT => ?_)
        clear hK K
        try simp only [Act.put, List.getElem_toArray, List.getElem_cons_zero, List.getElem_cons_succ, List.setIfInBounds_toArray, List.set_cons_zero, List.set_cons_succ]
        refine wpAnyM_done (by kernel_rfl) ?_ _
        have HPN : Hid (PHE w x2 (4 + (N : Int)) P p (bd + 2) bd (bd + 1) (i + 1) u12 u13) := Lib.hid (by rw [HX2.out]; exact ⟨Y, _, _, qs, gens, HFN.out⟩)
        try dsimp only
        go_wp2_with fail
        first | exact HPN.out | (apply hm; exact HPN.out)
    · skip
      go_simp
      try dsimp only
      obtain ⟨u8_, hu8_⟩ : ∃ u8_, u8_ = u.alloc (.cells #[.string str] 9) := ⟨_, rfl⟩
      rw [← hu8_]
      have HS8 : Hid (Below u.heap.size u u8_) := Lib.hid (by rw [hu8_]; exact sbox1 _ _)
      have HA8_ := Lib.hid (HA1.out.below HS8.out)
      have HW8_ : Hid (u8_.heap[bw]? = some (.cells #[.int .i64 0, .int .i64 kk, .slice bq bn bc] 39 (0, 0))) := Lib.hid ((HS8.out.block _ (Array.getElem?_eq_some_iff.1 HW1.out).1).trans HW1.out)
      have HE8 : Hid (u8_.heap[u.heap.size]? = some (.cells #[.string str] 9 (0, 0))) := Lib.hid (by rw [hu8_]; exact heap_alloc_new _ _)
      clear hu8_
      refine hK.out _ _ ⟨fun _ => HSS.out HA8_.out, HTT.out _ HW8_.out HA8_.out.c.m.below⟩ (fun hHeld hT => ?_)
      replace hHeld := hHeld rfl
      clear hK K
      try simp only [Act.put, List.getElem_toArray, List.getElem_cons_zero, List.getElem_cons_succ, List.setIfInBounds_toArray, List.set_cons_zero, List.set_cons_succ]
      refine wpAnyM_ready (rs := [3]) (by kernel_rfl) (by simp) ?_
      refine AllReadyM.cons rfl (fun K hK => ?_) AllReadyM.nil
      go_simp
      try dsimp only
      obtain ⟨u9_, hu9_⟩ : ∃ u9_, u9_ = u8_.alloc (.cells #[.int .i64 (k : Int)] 3) := ⟨_, rfl⟩
      rw [← hu9_]
      have HS9 : Hid (Below u8_.heap.size u8_ u9_) := Lib.hid (by rw [hu9_]; exact sbox1 _ _)
      have HA9_ := Lib.hid (HA8_.out.below HS9.out)
      have HW9_ : Hid (u9_.heap[bw]? = some (.cells #[.int .i64 0, .int .i64 kk, .slice bq bn bc] 39 (0, 0))) := Lib.hid ((HS9.out.block _ (Array.getElem?_eq_some_iff.1 HW8_.out).1).trans HW8_.out)
      have HE9 : Hid (u9_.heap[u8_.heap.size]? = some (.cells #[.int .i64 (k : Int)] 3 (0, 0))) := Lib.hid (by rw [hu9_]; exact heap_alloc_new _ _)
      clear hu9_
      have HG9 : Hid (u9_.heap[u.heap.size]? = some (.cells #[.string str] 9 (0, 0))) := Lib.hid ((HS9.out.block _ (Array.getElem?_eq_some_iff.1 HE8.out).1).trans HE8.out)
      refine hK.out _ _ ⟨fun _ => HSS.out HA9_.out, HTT.out _ HW9_.out HA9_.out.c.m.below⟩ (fun hHeld hT => ?_)
      replace hHeld := hHeld rfl
      clear hK K
      try simp only [Act.put, List.getElem_toArray, List.getElem_cons_zero, List.getElem_cons_succ, List.setIfInBounds_toArray, List.set_cons_zero, List.set_cons_succ]
      refine wpAnyM_ready (rs := [4]) (by kernel_rfl) (by simp) ?_
      refine AllReadyM.cons rfl (fun K hK => ?_) AllReadyM.nil
      refine step_oneI (B := bd + 2) (v := (.slice r1 m1 e1)) (l := (pnos aps)) (y := (k : Int)) rfl (.tmp 91) (.tmp 93) rfl (by kernel_rfl) HA9_.out.i1 (b := u8_.heap.size) (c := 1) (by kernel_rfl) ((Joins.cell_of_block HE9.out 0).trans rfl) (by have := HLA.out; omega) HA9_.out.lt.2.2.2 ?_
      intro v10_ u10_ ho hg hwh
      have HA10_ := Lib.hid (HA9_.out.app1 ho hg hwh)
      have HW10_ : Hid (u10_.heap[bw]? = some (.cells #[.int .i64 0, .int .i64 kk, .slice bq bn bc] 39 (0, 0))) := Lib.hid (box_kept HW9_.out HA9_.out.i1 (by decide) hg)
      have HG10 : Hid (u10_.heap[u.heap.size]? = some (.cells #[.string str] 9 (0, 0))) := Lib.hid (box_kept HG9.out HA9_.out.i1 (by decide) hg)
      clear ho hg hwh
      refine hK.out _ _ ⟨fun _ => HSS.out HA10_.out, HTT.out _ HW10_.out HA10_.out.c.m.below⟩ (fun hHeld hT => ?_)
      replace hHeld := hHeld rfl
      clear hK K
      try simp only [Act.put, List.getElem_toArray, List.getElem_cons_zero, List.getElem_cons_succ, List.setIfInBounds_toArray, List.set_cons_zero, List.set_cons_succ]
      refine wpAnyM_take (i := 12) (v := ?_) rfl (by kernel_rfl) (by kernel_rfl) (by kernel_rfl) (by kernel_rfl) (fun _ _ _ h => h) (Or.inl ⟨by rfl, ?_⟩) ⟨hHeld, hT⟩ ?_
      rotate_left
      · intro w hSw; (try dsimp only at hSw); go_simp; try with_reducible rfl
      simp only [Act.put, List.getElem_toArray, List.getElem_cons_zero, List.getElem_cons_succ, List.setIfInBounds_toArray, List.set_cons_zero, List.set_cons_succ]
      refine wpAnyM_ready (rs := [11]) (by kernel_rfl) (by simp) ?_
      refine AllReadyM.cons rfl (fun K hK => ?_) AllReadyM.nil
      refine step_oneS (B := bd + 2) (v := (.slice r2 m2 e2)) (l := (pstr aps)) (y := str) rfl (.tmp 96) (.tmp 100) rfl (by kernel_rfl) HA10_.out.i2 (b := u.heap.size) (c := 1) (by kernel_rfl) ((Joins.cell_of_block HG10.out 0).trans rfl) (by have := HLA.out; omega) HA10_.out.lt.2.2.2 ?_
      intro v11_ u11_ ho hg hwh
      have HA11_ := Lib.hid (HA10_.out.app2 ho hg hwh)
      have HW11_ : Hid (u11_.heap[bw]? = some (.cells #[.int .i64 0, .int .i64 kk, .slice bq bn bc] 39 (0, 0))) := Lib.hid (box_kept HW10_.out HA10_.out.i2 (by decide) hg)
      clear ho hg hwh
      refine hK.out _ _ ⟨fun _ => HSS.out HA11_.out, HTT.out _ HW11_.out HA11_.out.c.m.below⟩ (fun hHeld hT => ?_)
      replace hHeld := hHeld rfl
      clear hK K
      try simp only [Act.put, List.getElem_toArray, List.getElem_cons_zero, List.getElem_cons_succ, List.setIfInBounds_toArray, List.set_cons_zero, List.set_cons_succ]
      have HF := Lib.hid (show HA w u11_ (4 + (N : Int)) P p (bd + 2) bd (bd + 1) (i + 1) Y ⟨.slice q1 n1 c1, .slice q2 n2 c2, dr, dps⟩ ⟨.slice r1 m1 e1, .slice r2 m2 e2, ar, aps⟩ qs u12 u13 gens (aps ++ [⟨k, bl⟩]) v10_ v11_ (pnos (aps ++ [⟨k, bl⟩])) (pstr (aps ++ [⟨k, bl⟩])) by
        have h := HA11_.out
        rw [show pnos (aps ++ [⟨k, bl⟩]) = pnos aps ++ [(k : Int)] by simp [pnos], show pstr (aps ++ [⟨k, bl⟩]) = pstr aps ++ [str] by rw [HSTR.out]; simp [pstr]]
        exact h)
      have HFN := Lib.hid (HF.out.done_ ar (by have := HL3.out; dsimp only; rw [List.length_append, List.length_singleton]; omega))
      obtain ⟨p1, d1, hp1, _⟩ := HF.out.i1.lie
      obtain ⟨p2, d2, hp2, _⟩ := HF.out.i2.lie
      obtain ⟨z1, hz1⟩ : ∃ z, z = (pnos (aps ++ [⟨k, bl⟩])).length := ⟨_, rfl⟩
      obtain ⟨z2, hz2⟩ : ∃ z, z = (pstr (aps ++ [⟨k, bl⟩])).length := ⟨_, rfl⟩
      rw [← hz1] at hp1
      rw [← hz2] at hp2
      subst hp1 hp2
      clear hz1 hz2
      have HBN6 := Lib.hid (show u11_.heap[bd + 1]? = some (.cells #[.slice r1 m1 e1, .slice r2 m2 e2, .int .i64 ar] 35 (0, 0)) from HA11_.out.hn)
      have HTS : Hid (∀ cs w', w' = u11_.setRow (bd + 1) cs → (w'.cell? ⟨bw, 2, none⟩ = some (.slice bq bn bc) ∧ (convert 37 9 (.slice bq bn bc)).run Tryd.prog w' = .ok (.string str) w')) := Lib.hid fun cs w' hw => by
        subst hw
        exact HTT.out _ ((setRow_other _ _ _ _ (by intro e; have h1 := HW11_.out; rw [e, HBN6.out] at h1; exact absurd h1 (by simp))).trans HW11_.out) (HA11_.out.c.box HBN6.out HA11_.out.b.2.2 _).m.below
      have x0 := (Joins.cell_of_block HBN6.out 0).trans rfl
      have y0 := Joins.unfrozen_of_block HBN6.out 0
      have hbl := (Array.getElem?_eq_some_iff.1 HBN6.out).1
      refine wpAnyM_ready (rs := [13]) (by kernel_rfl) (by simp) ?_
      refine AllReadyM.cons rfl (fun K hK => ?_) AllReadyM.nil
      go_simp
      try dsimp only
      obtain ⟨x, hx⟩ : ∃ x, x = u11_.setCell ⟨bd + 1, 0, none⟩ (.slice p1 z1 d1) := ⟨_, rfl⟩
      rw [← hx]
      have HX : Hid (x = u11_.setRow (bd + 1) #[.slice p1 z1 d1, .slice r2 m2 e2, .int .i64 ar]) := Lib.hid (by rw [hx]; exact set0_row HBN6.out)
      clear hx x0 y0
      refine hK.out _ _ ⟨fun h => absurd h (by decide), HTS.out _ _ HX.out⟩ (fun _ hT => ?_)
      clear hK K
      try simp only [Act.put, List.getElem_toArray, List.getElem_cons_zero, List.getElem_cons_succ, List.setIfInBounds_toArray, List.set_cons_zero, List.set_cons_succ]
      refine wpAnyM_takeT (i := 14) (v := ?_) rfl (by kernel_rfl) (by kernel_rfl) (by kernel_rfl) (by kernel_rfl) (fun _ _ _ h => h) (Or.inl ⟨by rfl, ?_⟩) hT ?_
      rotate_left
      · intro w hSw; (try dsimp only at hSw); go_simp; try with_reducible rfl
      simp only [Act.put, List.getElem_toArray, List.getElem_cons_zero, List.getElem_cons_succ, List.setIfInBounds_toArray, List.set_cons_zero, List.set_cons_succ]
      have HBN7 : Hid (x.heap[bd + 1]? = some (.cells #[.slice p1 z1 d1, .slice r2 m2 e2, .int .i64 ar] 35 (0, 0))) := Lib.hid (by rw [HX.out]; exact setRow_heap _ _ _ _ _ _ HBN6.out)
      have x1 := (Joins.cell_of_block HBN7.out 1).trans rfl
      have y1 := Joins.unfrozen_of_block HBN7.out 1
      have hbl7 := (Array.getElem?_eq_some_iff.1 HBN7.out).1
      refine wpAnyM_ready (rs := [15]) (by kernel_rfl) (by simp) ?_
      refine AllReadyM.cons rfl (fun K hK => ?_) AllReadyM.nil
      go_simp
      try dsimp only
      obtain ⟨x2, hx2⟩ : ∃ x2, x2 = x.setCell ⟨bd + 1, 1, none⟩ (.slice p2 z2 d2) := ⟨_, rfl⟩
      rw [← hx2]
      have HX2 : Hid (x2 = u11_.setRow (bd + 1) #[.slice p1 z1 d1, .slice p2 z2 d2, .int .i64 ar]) := Lib.hid (by rw [hx2, set01_row HBN7.out, HX.out]; exact setRow_twice _ _ _ _)
      clear hx2 x1 y1
      refine hK.out _ _ ⟨fun h => absurd h (by decide), HTS.out _ _ HX2.out⟩ (fun _ hT => ?_)
      clear hK K
      try simp only [Act.put, List.getElem_toArray, List.getElem_cons_zero, List.getElem_cons_succ, List.setIfInBounds_toArray, List.set_cons_zero, List.set_cons_succ]
      refine wpAnyM_done (by kernel_rfl) ?_ _
      have HPN : Hid (PHE w x2 (4 + (N : Int)) P p (bd + 2) bd (bd + 1) (i + 1) u12 u13) := Lib.hid (by rw [HX2.out]; exact ⟨Y, _, _, qs, gens, HFN.out⟩)
      try dsimp only
      go_wp2_with fail
      first | exact HPN.out | (apply hm; exact HPN.out)
  · have HPN : Hid (PHE w w6 (4 + (N : Int)) P p (bd + 2) bd (bd + 1) (i + 1) u12 u13) := Lib.hid ⟨X, _, _, qs, gens, HP.out.call hkp hkp.size hY⟩
    clear hkp hY
    rcases her with rfl | rfl
    · try dsimp only
      try dsimp only
      go_wp2_with fail
      first | exact HPN.out | (apply hm; exact HPN.out)
    · try dsimp only
      try dsimp only
      go_wp2_with fail
      first | exact HPN.out | (apply hm; exact HPN.out)

end Go.Proofs.YtmlnpgbnbchbkaaDoor
