/-
  PagerHolds: what stands behind the switch.
-/
import Derived.Test.YtmlnpgbnbchbkaaDoorH34
import Derived.LoopTactic
import Derived.Deep.LoopGhost
import Derived.Deep.CutBlock
import Derived.Deep.CutRange
import Derived.Deep.RegionHeld3
import Derived.Deep.RegionLaw
set_option linter.unusedVariables false
set_option maxRecDepth 100000
namespace Go.Proofs.YtmlnpgbnbchbkaaDoor
open Go.RowKit

set_option maxHeartbeats 25600000 in
theorem rest_any {w wc : World} (HT : Hid (Tab w)) {kq : Option Addr} {kn kc : Nat} {keep : List Int} (HK : Hid (Ks w kq keep)) (HKN : Hid (kn = keep.length)) (hkm : kn ≤ 9223372036854775807) {N : Nat} (hN : N ≤ 31) {P p bd i m : Nat} (HLT : LtN i m) (HLT2 : LtN i 80) (i0 : (0 : Int) ≤ (i : Int)) (i2 : (i : Int) < 80) {bw : Nat} {u12 u13 : Value} (HI3 : Hid (PHE w wc (4 + (N : Int)) P p (bd + 2) bd (bd + 1) (i + 1) u12 u13)) {c1 c3 c4 c5 c8 c24 c25 c26 c27 c28 c29 c30 c31 c32 c33 c34 c35 c36 c37 c38 c39 c40 c41 c42 c43 c44 c45 c46 c47 c48 c49 c50 c51 c52 c53 c54 c333 c334 c335 c336 u6 u16 u17 u18 u19 u20 u21 u22 u23 u55 u56 u57 u58 u59 u60 u61 u62 u63 u64 u65 u66 u67 u68 u69 u70 u71 u72 u73 u74 u75 u76 u77 u78 u79 u80 u81 u82 u83 u84 u85 u86 u87 u88 u89 u90 u91 u92 u93 u94 u95 u96 u97 u98 u99 u100 u101 u102 u103 u104 u105 u106 u107 u108 u109 u110 u111 u112 u113 u114 u115 u116 u117 u118 u119 u120 u121 u122 u123 u124 u125 u126 u127 u128 u129 u130 u131 u132 u133 u134 u135 u136 u137 u138 u139 u140 u141 u142 u143 u144 u145 u146 u147 u148 u149 u150 u151 u152 u153 u154 u155 u156 u157 u158 u159 u160 u161 u162 u163 u164 u165 u166 u167 u168 u169 u170 u171 u172 u173 u174 u175 u176 u177 u178 u179 u180 u181 u182 u183 u184 u185 u186 u187 u188 u189 u190 u191 u192 u193 u194 u195 u196 u197 u198 u199 u200 u201 u202 u203 u204 u205 u206 u207 u208 u209 u210 u211 u212 u213 u214 u215 u216 u217 u218 u219 u220 u221 u222 u223 u224 u225 u226 u227 u228 u229 u230 u231 u232 u233 u234 u235 u236 u237 u238 u239 u240 u241 u242 u243 u244 u245 u246 u247 u248 u249 u250 u251 u252 u253 u254 u255 u256 u257 u258 u259 u260 u261 u262 u263 u264 u265 u266 u267 u268 u269 u270 u271 u272 u273 u274 u275 u276 u277 u278 u279 u280 u281 u282 u283 u284 u285 u286 u287 u288 u289 u290 u291 u292 u293 u294 u295 u296 u297 u298 u299 u300 u301 u302 u303 u304 u305 u306 u307 u308 u309 u310 u311 u312 u313 u314 u315 u316 u317 u318 u319 u320 u321 u322 u323 u324 u325 u326 u327 u328 u329 u330 u331 u332 : Value} {K1 K2 K3 : Act → World → Prop} (hm1 : ∀ (v12 v13 v6 v16 v17 v18 v19 v20 v21 v22 v23 v55 v56 v57 v58 v59 v60 v61 v62 v63 v64 v65 v66 v67 v68 v69 v70 v71 v72 v73 v74 v75 v76 v77 v78 v79 v80 v81 v82 v83 v84 v85 v86 v87 v88 v89 v90 v91 v92 v93 v94 v95 v96 v97 v98 v99 v100 v101 v102 v103 v104 v105 v106 v107 v108 v109 v110 v111 v112 v113 v114 v115 v116 v117 v118 v119 v120 v121 v122 v123 v124 v125 v126 v127 v128 v129 v130 v131 v132 v133 v134 v135 v136 v137 v138 v139 v140 v141 v142 v143 v144 v145 v146 v147 v148 v149 v150 v151 v152 v153 v154 v155 v156 v157 v158 v159 v160 v161 v162 v163 v164 v165 v166 v167 v168 v169 v170 v171 v172 v173 v174 v175 v176 v177 v178 v179 v180 v181 v182 v183 v184 v185 v186 v187 v188 v189 v190 v191 v192 v193 v194 v195 v196 v197 v198 v199 v200 v201 v202 v203 v204 v205 v206 v207 v208 v209 v210 v211 v212 v213 v214 v215 v216 v217 v218 v219 v220 v221 v222 v223 v224 v225 v226 v227 v228 v229 v230 v231 v232 v233 v234 v235 v236 v237 v238 v239 v240 v241 v242 v243 v244 v245 v246 v247 v248 v249 v250 v251 v252 v253 v254 v255 v256 v257 v258 v259 v260 v261 v262 v263 v264 v265 v266 v267 v268 v269 v270 v271 v272 v273 v274 v275 v276 v277 v278 v279 v280 v281 v282 v283 v284 v285 v286 v287 v288 v289 v290 v291 v292 v293 v294 v295 v296 v297 v298 v299 v300 v301 v302 v303 v304 v305 v306 v307 v308 v309 v310 v311 v312 v313 v314 v315 v316 v317 v318 v319 v320 v321 v322 v323 v324 v325 v326 v327 v328 v329 v330 v331 v332 : Value) (wx : World), PHE w wx (4 + (N : Int)) P p (bd + 2) bd (bd + 1) (i + 1) v12 v13 → K1 ⟨#[.int .i64 (4 + (N : Int)), c1, .slice kq kn kc, c3, c4, c5, v6, .pointer (some ⟨p, 0, none⟩), c8, .pointer (some ⟨P, 0, none⟩), .pointer (some ⟨bd, 0, none⟩), .pointer (some ⟨bd + 1, 0, none⟩), v12, v13, .int .i64 (i : Int), .pointer (some ⟨bw, 0, none⟩), v16, v17, v18, v19, v20, v21, v22, v23, c24, c25, c26, c27, c28, c29, c30, c31, c32, c33, c34, c35, c36, c37, c38, c39, c40, c41, c42, c43, c44, c45, c46, c47, c48, c49, c50, c51, c52, c53, c54, v55, v56, v57, v58, v59, v60, v61, v62, v63, v64, v65, v66, v67, v68, v69, v70, v71, v72, v73, v74, v75, v76, v77, v78, v79, v80, v81, v82, v83, v84, v85, v86, v87, v88, v89, v90, v91, v92, v93, v94, v95, v96, v97, v98, v99, v100, v101, v102, v103, v104, v105, v106, v107, v108, v109, v110, v111, v112, v113, v114, v115, v116, v117, v118, v119, v120, v121, v122, v123, v124, v125, v126, v127, v128, v129, v130, v131, v132, v133, v134, v135, v136, v137, v138, v139, v140, v141, v142, v143, v144, v145, v146, v147, v148, v149, v150, v151, v152, v153, v154, v155, v156, v157, v158, v159, v160, v161, v162, v163, v164, v165, v166, v167, v168, v169, v170, v171, v172, v173, v174, v175, v176, v177, v178, v179, v180, v181, v182, v183, v184, v185, v186, v187, v188, v189, v190, v191, v192, v193, v194, v195, v196, v197, v198, v199, v200, v201, v202, v203, v204, v205, v206, v207, v208, v209, v210, v211, v212, v213, v214, v215, v216, v217, v218, v219, v220, v221, v222, v223, v224, v225, v226, v227, v228, v229, v230, v231, v232, v233, v234, v235, v236, v237, v238, v239, v240, v241, v242, v243, v244, v245, v246, v247, v248, v249, v250, v251, v252, v253, v254, v255, v256, v257, v258, v259, v260, v261, v262, v263, v264, v265, v266, v267, v268, v269, v270, v271, v272, v273, v274, v275, v276, v277, v278, v279, v280, v281, v282, v283, v284, v285, v286, v287, v288, v289, v290, v291, v292, v293, v294, v295, v296, v297, v298, v299, v300, v301, v302, v303, v304, v305, v306, v307, v308, v309, v310, v311, v312, v313, v314, v315, v316, v317, v318, v319, v320, v321, v322, v323, v324, v325, v326, v327, v328, v329, v330, v331, v332, c333, c334, c335, c336], []⟩ wx) : Code.wp Tryd.prog restC (Exit.inBlock 1 (Exit.then K1 (Exit.then K2 (Exit.inBlock 0 (Exit.then K3 (bodyPost Tryd.prog Tryd.f3 fun e w' => e = .returned (.bool true) ∧ Below w.heap.size w w')))))) ⟨#[.int .i64 (4 + (N : Int)), c1, .slice kq kn kc, c3, c4, c5, u6, .pointer (some ⟨p, 0, none⟩), c8, .pointer (some ⟨P, 0, none⟩), .pointer (some ⟨bd, 0, none⟩), .pointer (some ⟨bd + 1, 0, none⟩), u12, u13, .int .i64 (i : Int), .pointer (some ⟨bw, 0, none⟩), u16, u17, u18, u19, u20, u21, u22, u23, c24, c25, c26, c27, c28, c29, c30, c31, c32, c33, c34, c35, c36, c37, c38, c39, c40, c41, c42, c43, c44, c45, c46, c47, c48, c49, c50, c51, c52, c53, c54, u55, u56, u57, u58, u59, u60, u61, u62, u63, u64, u65, u66, u67, u68, u69, u70, u71, u72, u73, u74, u75, u76, u77, u78, u79, u80, u81, u82, u83, u84, u85, u86, u87, u88, u89, u90, u91, u92, u93, u94, u95, u96, u97, u98, u99, u100, u101, u102, u103, u104, u105, u106, u107, u108, u109, u110, u111, u112, u113, u114, u115, u116, u117, u118, u119, u120, u121, u122, u123, u124, u125, u126, u127, u128, u129, u130, u131, u132, u133, u134, u135, u136, u137, u138, u139, u140, u141, u142, u143, u144, u145, u146, u147, u148, u149, u150, u151, u152, u153, u154, u155, u156, u157, u158, u159, u160, u161, u162, u163, u164, u165, u166, u167, u168, u169, u170, u171, u172, u173, u174, u175, u176, u177, u178, u179, u180, u181, u182, u183, u184, u185, u186, u187, u188, u189, u190, u191, u192, u193, u194, u195, u196, u197, u198, u199, u200, u201, u202, u203, u204, u205, u206, u207, u208, u209, u210, u211, u212, u213, u214, u215, u216, u217, u218, u219, u220, u221, u222, u223, u224, u225, u226, u227, u228, u229, u230, u231, u232, u233, u234, u235, u236, u237, u238, u239, u240, u241, u242, u243, u244, u245, u246, u247, u248, u249, u250, u251, u252, u253, u254, u255, u256, u257, u258, u259, u260, u261, u262, u263, u264, u265, u266, u267, u268, u269, u270, u271, u272, u273, u274, u275, u276, u277, u278, u279, u280, u281, u282, u283, u284, u285, u286, u287, u288, u289, u290, u291, u292, u293, u294, u295, u296, u297, u298, u299, u300, u301, u302, u303, u304, u305, u306, u307, u308, u309, u310, u311, u312, u313, u314, u315, u316, u317, u318, u319, u320, u321, u322, u323, u324, u325, u326, u327, u328, u329, u330, u331, u332, c333, c334, c335, c336], []⟩ wc := by
  conv => arg 2; whnf
  have hcut := HI3.out
  obtain ⟨X, ⟨d1, d2, dr, dps⟩, ⟨a1, a2, ar, aps⟩, qs, gens, hP⟩ := hcut
  clear HI3
  obtain ⟨q1, n1, c1, hv1, hn1, hn1c, hn1d⟩ := (show OwnI wc (bd + 2) d1 (pnos dps) from hP.h.ad.1).lie.form
  obtain ⟨q2, n2, c2, hv2, hn2, hn2c, hn2d⟩ := (show OwnS wc (bd + 2) d2 (pstr dps) from hP.h.ad.2).lie.form
  obtain ⟨r1, m1, e1, hv3, hm1, hm1c, hm1d⟩ := (show OwnI wc (bd + 2) a1 (pnos aps) from hP.h.an.1).lie.form
  obtain ⟨r2, m2, e2, hv4, hm2, hm2c, hm2d⟩ := (show OwnS wc (bd + 2) a2 (pstr aps) from hP.h.an.2).lie.form
  subst hv1 hv2 hv3 hv4
  obtain ⟨qv, cv, hvx, hqc, hqc2, hcells⟩ := row3_form hP.h.ip
  subst hvx
  have HP := Lib.hid hP
  have HBW : Hid (Below w.heap.size w wc) := Lib.hid hP.c.m.below
  have HCX : Hid (∀ w', Below wc.heap.size wc w' → w'.cell? ⟨bd, 0, none⟩ = some (.slice q1 n1 c1) ∧ w'.cell? ⟨bd, 1, none⟩ = some (.slice q2 n2 c2) ∧ w'.cell? ⟨bd, 2, none⟩ = some (.int .i64 dr) ∧ w'.cell? ⟨bd + 1, 0, none⟩ = some (.slice r1 m1 e1) ∧ w'.cell? ⟨bd + 1, 1, none⟩ = some (.slice r2 m2 e2) ∧ w'.cell? ⟨bd + 1, 2, none⟩ = some (.int .i64 ar)) := Lib.hid fun w' hb => by
    have h := (HP.out.later hb).boxes
    exact ⟨h.1.1, h.1.2.1, h.1.2.2, h.2.1.1, h.2.1.2.1, h.2.1.2.2⟩
  have HH1 : Hid (∀ w', Below wc.heap.size wc w' → Calls Tryd.prog 18 #[.pointer (some ⟨P, 0, none⟩), .agg #[.slice q1 n1 c1, .slice q2 n2 c2, .int .i64 dr]] w' fun e w'' => e = .returned (.bool true) ∧ Below w'.heap.size w' w'') := Lib.hid fun w' hb => hc_holds HT.out (HP.out.later hb).c (.inl rfl) (HP.out.later hb).h.ad.1 (HP.out.later hb).h.ad.2 dr
  have HH2 : Hid (∀ w', Below wc.heap.size wc w' → Calls Tryd.prog 18 #[.pointer (some ⟨P, 0, none⟩), .agg #[.slice r1 m1 e1, .slice r2 m2 e2, .int .i64 ar]] w' fun e w'' => e = .returned (.bool true) ∧ Below w'.heap.size w' w'') := Lib.hid fun w' hb => hc_holds HT.out (HP.out.later hb).c (.inr (.inl rfl)) (HP.out.later hb).h.an.1 (HP.out.later hb).h.an.2 ar
  have HFD : Hid (∀ w', Below wc.heap.size wc w' → Calls Tryd.prog 11 #[.pointer (some ⟨p, 0, none⟩), .slice kq kn kc, .agg #[.slice q1 n1 c1, .slice q2 n2 c2, .int .i64 dr]] w' fun e w'' => e = .returned (.bool true) ∧ Below w'.heap.size w' w'') := Lib.hid fun w' hb => hc_found (kc := kc) HT.out (HP.out.later hb).c ((HK.out.below HBW.out).below hb) HKN.out hkm (HP.out.later hb).h.ad.1 (HP.out.later hb).h.ad.2
  obtain ⟨f0, hf0⟩ : ∃ f, f = X.F.nFree := ⟨_, rfl⟩
  obtain ⟨v0, hv0⟩ : ∃ f, f = X.F.nWaits := ⟨_, rfl⟩
  have hlm : (aps.length : Int) = (m1 : Int) := by rw [hm1]; simp [pnos]
  have hcnt := (hc_counts hP.c).2.2.2
  have hfge : 0 ≤ f0 := by
    have h1 := (FL.Ok.count hP.c.v.ok)
    rw [hf0]
    unfold FL.nFree
    omega
  have HCT : Hid (∀ w', Below wc.heap.size wc w' → (Calls Tryd.prog 19 #[.pointer (some ⟨P, 0, none⟩)] w' fun e w'' => e = .returned (.int .i64 f0) ∧ Below w'.heap.size w' w'') ∧ (Calls Tryd.prog 20 #[.pointer (some ⟨P, 0, none⟩)] w' fun e w'' => e = .returned (.int .i64 (m1 : Int)) ∧ w' = w'') ∧ (Calls Tryd.prog 21 #[.pointer (some ⟨P, 0, none⟩)] w' fun e w'' => e = .returned (.int .i64 (v0 : Int)) ∧ w' = w'')) := Lib.hid fun w' hb => by
    obtain ⟨h1, h2, h3, _⟩ := hc_counts (HP.out.later hb).c
    rw [show (((⟨.slice r1 m1 e1, .slice r2 m2 e2, ar, aps⟩ : HS).ps.length : Nat) : Int) = (m1 : Int) from hlm] at h2
    rw [← hf0] at h1
    rw [← hv0] at h3
    exact ⟨h1, h2, h3⟩
  have hsum : f0 + (m1 : Int) + (v0 : Int) = 4 + (N : Int) - 2 := by
    rw [← hlm, hf0, hv0]
    exact hcnt
  have hw1 : IntKind.i64.wrap (f0 + (m1 : Int)) = f0 + (m1 : Int) := by rw [IntKind.wrap_i64]; omega
  have hw2 : IntKind.i64.wrap (f0 + (m1 : Int) + (v0 : Int)) = 4 + (N : Int) - 2 := by rw [IntKind.wrap_i64]; omega
  have hw3 : IntKind.i64.wrap (4 + (N : Int) - 2) = 4 + (N : Int) - 2 := by rw [IntKind.wrap_i64]; omega
  have HCQ : Hid (∀ w', Below wc.heap.size wc w' → ∀ k s, qs[k]? = some s → ∃ b s1 u1 o1 s2 u2 o2, qv = some ⟨b, 0, none⟩ ∧ w'.cell? ⟨b, k * 3, none⟩ = some (.slice s1 u1 o1) ∧ w'.cell? ⟨b, k * 3 + 1, none⟩ = some (.slice s2 u2 o2) ∧ w'.cell? ⟨b, k * 3 + 2, none⟩ = some (.int .i64 s.r) ∧ Calls Tryd.prog 18 #[.pointer (some ⟨P, 0, none⟩), .agg #[.slice s1 u1 o1, .slice s2 u2 o2, .int .i64 s.r]] w' fun e w'' => e = .returned (.bool true) ∧ Below w'.heap.size w' w'') := Lib.hid fun w' hb k s hs => by
    obtain ⟨f1, f2, f3⟩ := flat3 hs
    obtain ⟨b, hq, hbl, g1⟩ := hcells _ _ f1
    obtain ⟨b', hq', _, g2⟩ := hcells _ _ f2
    obtain ⟨b'', hq'', _, g3⟩ := hcells _ _ f3
    obtain rfl : b = b' := by rw [hq] at hq'; simpa using hq'
    obtain rfl : b = b'' := by rw [hq] at hq''; simpa using hq''
    have hat := (HP.out.later hb).h.aq s (List.mem_of_getElem? hs)
    obtain ⟨s1, u1, o1, hx1, _⟩ := hat.1.lie.form
    obtain ⟨s2, u2, o2, hx2, _⟩ := hat.2.lie.form
    rw [hx1] at g1
    rw [hx2] at g2
    have hh := hc_holds HT.out (HP.out.later hb).c (ps := s.ps) (.inr (.inr (List.mem_map_of_mem (List.mem_of_getElem? hs)))) hat.1 hat.2 s.r
    rw [hx1, hx2] at hh
    exact ⟨b, s1, u1, o1, s2, u2, o2, hq, (hb.cell hbl).trans g1, (hb.cell hbl).trans g2, (hb.cell hbl).trans g3, hh⟩
  have HPE : Hid (∀ w' z, z = qs.length → Below wc.heap.size wc w' → PHE w w' (4 + (N : Int)) P p (bd + 2) bd (bd + 1) (i + 1) (.slice qv z cv) u13) := Lib.hid fun w' z hz hb => by
    subst hz
    exact ⟨X, _, _, qs, gens, HP.out.later hb⟩
  have HBD : Hid (Below wc.heap.size wc wc.drew) := Lib.hid (Below.refl _ _).drew
  have hql : qs.length ≤ 9223372036854775807 := by omega
  obtain ⟨qn, hqn⟩ : ∃ z, z = qs.length := ⟨_, rfl⟩
  have HQN := Lib.hid hqn
  rw [← hqn] at hql hqc ⊢
  obtain ⟨s0, s1, s2, t0, t1, t2⟩ := HCX.out _ (Below.refl _ _)
  clear hP hcells hcnt hf0 hv0 hlm hqn
  replace hn1 := Lib.hid hn1
  replace hn2 := Lib.hid hn2
  replace hm1 := Lib.hid hm1
  replace hm2 := Lib.hid hm2
  try dsimp only
  go_wp2_with fail
  go_region_held3 (fun w' => w'.cell? ⟨bd, 0, none⟩ = some (.slice q1 n1 c1) ∧ w'.cell? ⟨bd, 1, none⟩ = some (.slice q2 n2 c2) ∧ w'.cell? ⟨bd, 2, none⟩ = some (.int .i64 dr) ∧ w'.cell? ⟨bd + 1, 0, none⟩ = some (.slice r1 m1 e1) ∧ w'.cell? ⟨bd + 1, 1, none⟩ = some (.slice r2 m2 e2) ∧ w'.cell? ⟨bd + 1, 2, none⟩ = some (.int .i64 ar))
    (first | exact HCX.out _ HE6.out | exact HCX.out _ HE5.out | exact HCX.out _ HE4.out | exact HCX.out _ HE3.out | exact HCX.out _ HE2.out | exact HCX.out _ HE1.out | exact HCX.out _ HBD.out)
    (first
      | (go_at_call 20; (with_reducible refine (HCT.out _ HE5.out).2.1.mono ?_); rintro e w10 ⟨rfl, rfl⟩; (try dsimp only); have HE6 := HE5)
      | (go_at_call 21; (with_reducible refine (HCT.out _ HE4.out).2.2.mono ?_); rintro e w9 ⟨rfl, rfl⟩; (try dsimp only); have HE5 := HE4)
      | (go_at_call 20; (with_reducible refine (HCT.out _ HE3.out).2.1.mono ?_); rintro e w8 ⟨rfl, rfl⟩; (try dsimp only); have HE4 := HE3)
      | (go_at_call 19; (with_reducible refine (HCT.out _ HE2.out).1.mono ?_); rintro e w7 ⟨rfl, hb⟩; (try dsimp only); have HE3 := Lib.hid (HE2.out.trans (hb.mono HE2.out.size)); clear hb)
      | (go_at_call 18; (with_reducible refine (HH2.out _ HE1.out).mono ?_); rintro e w6 ⟨rfl, hb⟩; (try dsimp only); have HE2 := Lib.hid (HE1.out.trans (hb.mono HE1.out.size)); clear hb)
      | (go_at_call 18; go_loud ((with_reducible refine (HH1.out _ HBD.out).mono ?_); rintro e w5 ⟨rfl, hb⟩; (try dsimp only); have HE1 := Lib.hid (HBD.out.trans (hb.mono HBD.out.size)); clear hb))
      | fail)
  all_goals
    clear s0 s1 s2 t0 t1 t2 hw1 hw2 hw3 hsum
    try dsimp only
    go_wp2_with fail
    go_loopw [23] (fun k w' => ∃ kx : Nat, k = .int .i64 (kx : Int) ∧ kx ≤ qn ∧ Below wc.heap.size wc w') (fun k _ => qn - (intOf k).toNat)
    case atStart => exact ⟨0, rfl, by omega, HE6.out⟩
    case round =>
      obtain ⟨kx, rfl, hkq, hb⟩ := hrel
      have HB := Lib.hid hb
      by_cases hkl : kx < qn
      · obtain ⟨s, hs⟩ : ∃ s, qs[kx]? = some s := ⟨_, List.getElem?_eq_getElem (by rw [← HQN.out]; exact hkl)⟩
        obtain ⟨b, s1', u1', o1', s2', u2', o2', hqv, g0, g1, g2, hh⟩ := HCQ.out _ hb kx s hs
        subst hqv
        have HHH := Lib.hid hh
        clear hb hs hh
        try dsimp only
        go_wp2_with fail
        refine HHH.out.mono ?_
        rintro e w8 ⟨rfl, hb8⟩
        have HB8 := Lib.hid (HB.out.trans (hb8.mono HB.out.size))
        clear hb8 g0 g1 g2
        try dsimp only
        go_wp2
        go_roundw
        case rel => exact ⟨kx + 1, by go_num, by omega, HB8.out⟩
        case measure => simp [intOf]; omega
      · obtain ⟨s0, s1, s2, t0, t1, t2⟩ := HCX.out _ hb
        obtain ⟨rm, hrm, hrm2⟩ : ∃ r : Int, (i : Int).tmod 7 = r ∧ 0 ≤ r := ⟨_, rfl, Int.tmod_nonneg 7 (by omega)⟩
        have HFX := Lib.hid (HFD.out _ hb)
        clear hb
        by_cases h3 : rm = 3
        · subst h3
          try dsimp only
          go_wp2_with fail
          refine HFX.out.mono ?_
          rintro e w8 ⟨rfl, hb8⟩
          have HB8 := Lib.hid (HB.out.trans (hb8.mono HB.out.size))
          clear hb8 s0 s1 s2 t0 t1 t2
          try dsimp only
          go_wp2
          first | exact HPE.out _ _ HQN.out HB8.out | (apply hm1; exact HPE.out _ _ HQN.out HB8.out)
        · have e3 : (rm == 3) = false := by simpa using h3
          clear h3
          try dsimp only
          go_wp2
          first | exact HPE.out _ _ HQN.out HB.out | (apply hm1; exact HPE.out _ _ HQN.out HB.out)

end Go.Proofs.YtmlnpgbnbchbkaaDoor
