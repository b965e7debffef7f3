/- The outer loop of LaneTrips' walk, over the frame written out. Conditions as it names them. -/
import Derived.Test.YtgladhebgnngdaaSg14
import Derived.Test.YtgladhebgnngdaaLpc14
import Derived.Test.YtgladhebgnngdaaLpd14
import Derived.Test.YtgladhebgnngdaaLpe14
import Derived.Test.YtgladhebgnngdaaTp14
namespace Go.Proofs.Ytgladhebgnngdaa
open Go.ChangeShapes Go.WideShapes Go.ChangeAt Go.RowKit Go.Lib Go.Maps
set_option linter.unusedVariables false
set_option linter.unusedSimpArgs false

set_option maxHeartbeats 40000000 in
set_option maxRecDepth 1000000 in
theorem trips_loop {u0 u2 u4 u7 u8 u9 u10 u11 u12 u13 u14 u15 u16 u17 u18 u19 u20 u21 u22 u23 u24 u25 u26 u27 u28 u29 u30 u31 u32 u33 u34 u35 u36 u37 u38 u39 u40 u41 u42 u43 u44 u45 u46 u47 u48 u49 u50 u51 u52 u53 u54 u55 u56 u57 u58 u59 u60 u61 u62 u63 u64 u65 u66 u67 u68 u69 u70 u71 u72 u73 u74 u75 u76 u77 u78 u79 u80 u81 u82 u83 u84 u85 u86 u87 u88 u89 u90 u91 u92 u93 u94 u95 u96 u97 u98 u99 u100 u101 u102 u103 u104 u105 u106 u107 u108 u109 u110 u111 u112 u113 u114 u115 u116 u117 u118 u119 u120 u121 u122 u123 u124 u125 u126 u127 u128 u129 u130 u131 u132 u133 u134 u135 u136 u137 u138 u139 u140 u141 u142 u143 u144 u145 u146 u147 u148 u149 u150 u151 u152 u153 u154 u155 u156 u157 u158 u159 u160 u161 u162 u163 u164 u165 u166 u167 u168 u169 u170 u171 u172 u173 u174 u175 u176 u177 u178 u179 u180 u181 u182 u183 u184 u185 u186 u187 u188 u189 u190 u191 u192 u193 u194 u195 u196 u197 u198 u199 u200 u201 u202 u203 u204 u205 u206 u207 u208 u209 u210 u211 u212 u213 u214 u215 u216 u217 u218 u219 u220 u221 u222 u223 u224 u225 u226 u227 u228 u229 u230 u231 u232 u233 u234 u235 u236 u237 u238 u239 u240 u241 u242 u243 u244 u245 u246 u247 u248 u249 u250 u251 u252 u253 u254 u255 u256 u257 u258 u259 u260 u261 u262 u263 u264 u265 u266 u267 u268 u269 u270 u271 u272 u273 u274 u275 u276 u277 u278 u279 : Value} {Q : Exit → Act → World → Prop} {w1 w7 : World} {lb B0 L cap Bn bc : Nat} {l s x q : Int} {ao bo : Option Addr} {ts : List Tm} {bs : List Nat}
    (HBx : Hid (∀ W, Fr [] w1 W → W.cell? ⟨B0, 0, none⟩ = some (.int .i64 l) ∧ W.cell? ⟨B0, 1, none⟩ = some (.int .i64 s) ∧ W.cell? ⟨B0, 2, none⟩ = some (.int .i64 x) ∧ W.cell? ⟨B0, 3, none⟩ = some (.int .i64 q) ∧ W.cell? ⟨B0, 4, none⟩ = some (.slice ao L cap) ∧ W.cell? ⟨B0, 5, none⟩ = some (.slice bo Bn bc)))
    (HTx : Hid (∀ W, Fr [] w1 W → TRs W ao ts)) (HBs : Hid (∀ W, Fr [] w1 W → BArg W bo Bn bc bs)) (HL : Hid (L = ts.length)) (HMay : Hid (Cf.may ⟨l, s, x, q⟩)) (hL100 : L ≤ 100) (hBn : Bn ≤ 140737488351232) (hlb0 : 1 ≤ l ∧ l ≤ 16) (hlb1 : w1.heap.size ≤ lb) (HM7 : Hid (LnM w7 lb l l s x q none [])) (hG7 : Fr [] w1 w7)
    (hexit : ∀ (v0 v1 v2 v3 v4 v5 v6 v7 v8 v9 v10 v11 v12 v13 v14 v15 v16 v17 v18 v19 v20 v21 v22 v23 v24 v25 v26 v27 v28 v29 v30 v31 v32 v33 v34 v35 v36 v37 v38 v39 v40 v41 v42 v43 v44 v45 v46 v47 v48 v49 v50 v51 v52 v53 v54 v55 v56 v57 v58 v59 v60 v61 v62 v63 v64 v65 v66 v67 v68 v69 v70 v71 v72 v73 v74 v75 v76 v77 v78 v79 v80 v81 v82 v83 v84 v85 v86 v87 v88 v89 v90 v91 v92 v93 v94 v95 v96 v97 v98 v99 v100 v101 v102 v103 v104 v105 v106 v107 v108 v109 v110 v111 v112 v113 v114 v115 v116 v117 v118 v119 v120 v121 v122 v123 v124 v125 v126 v127 v128 v129 v130 v131 v132 v133 v134 v135 v136 v137 v138 v139 v140 v141 v142 v143 v144 v145 v146 v147 v148 v149 v150 v151 v152 v153 v154 v155 v156 v157 v158 v159 v160 v161 v162 v163 v164 v165 v166 v167 v168 v169 v170 v171 v172 v173 v174 v175 v176 v177 v178 v179 v180 v181 v182 v183 v184 v185 v186 v187 v188 v189 v190 v191 v192 v193 v194 v195 v196 v197 v198 v199 v200 v201 v202 v203 v204 v205 v206 v207 v208 v209 v210 v211 v212 v213 v214 v215 v216 v217 v218 v219 v220 v221 v222 v223 v224 v225 v226 v227 v228 v229 v230 v231 v232 v233 v234 v235 v236 v237 v238 v239 v240 v241 v242 v243 v244 v245 v246 v247 v248 v249 v250 v251 v252 v253 v254 v255 v256 v257 v258 v259 v260 v261 v262 v263 v264 v265 v266 v267 v268 v269 v270 v271 v272 v273 v274 v275 v276 v277 v278 v279 : Value) (wr : World), Fr [] w1 wr → Q (.exit 0) ⟨List.toArray (v0 :: v1 :: v2 :: v3 :: v4 :: v5 :: v6 :: v7 :: v8 :: v9 :: v10 :: v11 :: v12 :: v13 :: v14 :: v15 :: v16 :: v17 :: v18 :: v19 :: v20 :: v21 :: v22 :: v23 :: v24 :: v25 :: v26 :: v27 :: v28 :: v29 :: v30 :: v31 :: v32 :: v33 :: v34 :: v35 :: v36 :: v37 :: v38 :: v39 :: v40 :: v41 :: v42 :: v43 :: v44 :: v45 :: v46 :: v47 :: v48 :: v49 :: v50 :: v51 :: v52 :: v53 :: v54 :: v55 :: v56 :: v57 :: v58 :: v59 :: v60 :: v61 :: v62 :: v63 :: v64 :: v65 :: v66 :: v67 :: v68 :: v69 :: v70 :: v71 :: v72 :: v73 :: v74 :: v75 :: v76 :: v77 :: v78 :: v79 :: v80 :: v81 :: v82 :: v83 :: v84 :: v85 :: v86 :: v87 :: v88 :: v89 :: v90 :: v91 :: v92 :: v93 :: v94 :: v95 :: v96 :: v97 :: v98 :: v99 :: v100 :: v101 :: v102 :: v103 :: v104 :: v105 :: v106 :: v107 :: v108 :: v109 :: v110 :: v111 :: v112 :: v113 :: v114 :: v115 :: v116 :: v117 :: v118 :: v119 :: v120 :: v121 :: v122 :: v123 :: v124 :: v125 :: v126 :: v127 :: v128 :: v129 :: v130 :: v131 :: v132 :: v133 :: v134 :: v135 :: v136 :: v137 :: v138 :: v139 :: v140 :: v141 :: v142 :: v143 :: v144 :: v145 :: v146 :: v147 :: v148 :: v149 :: v150 :: v151 :: v152 :: v153 :: v154 :: v155 :: v156 :: v157 :: v158 :: v159 :: v160 :: v161 :: v162 :: v163 :: v164 :: v165 :: v166 :: v167 :: v168 :: v169 :: v170 :: v171 :: v172 :: v173 :: v174 :: v175 :: v176 :: v177 :: v178 :: v179 :: v180 :: v181 :: v182 :: v183 :: v184 :: v185 :: v186 :: v187 :: v188 :: v189 :: v190 :: v191 :: v192 :: v193 :: v194 :: v195 :: v196 :: v197 :: v198 :: v199 :: v200 :: v201 :: v202 :: v203 :: v204 :: v205 :: v206 :: v207 :: v208 :: v209 :: v210 :: v211 :: v212 :: v213 :: v214 :: v215 :: v216 :: v217 :: v218 :: v219 :: v220 :: v221 :: v222 :: v223 :: v224 :: v225 :: v226 :: v227 :: v228 :: v229 :: v230 :: v231 :: v232 :: v233 :: v234 :: v235 :: v236 :: v237 :: v238 :: v239 :: v240 :: v241 :: v242 :: v243 :: v244 :: v245 :: v246 :: v247 :: v248 :: v249 :: v250 :: v251 :: v252 :: v253 :: v254 :: v255 :: v256 :: v257 :: v258 :: v259 :: v260 :: v261 :: v262 :: v263 :: v264 :: v265 :: v266 :: v267 :: v268 :: v269 :: v270 :: v271 :: v272 :: v273 :: v274 :: v275 :: v276 :: v277 :: v278 :: v279 :: []), []⟩ wr) :
    Code.wp Try.prog codeL1 Q ⟨List.toArray (u0 :: .pointer (some ⟨B0, 0, none⟩) :: u2 :: .pointer (some ⟨lb, 0, none⟩) :: u4 :: .int .i64 0 :: .int .i64 0 :: u7 :: u8 :: u9 :: u10 :: u11 :: u12 :: u13 :: u14 :: u15 :: u16 :: u17 :: u18 :: u19 :: u20 :: u21 :: u22 :: u23 :: u24 :: u25 :: u26 :: u27 :: u28 :: u29 :: u30 :: u31 :: u32 :: u33 :: u34 :: u35 :: u36 :: u37 :: u38 :: u39 :: u40 :: u41 :: u42 :: u43 :: u44 :: u45 :: u46 :: u47 :: u48 :: u49 :: u50 :: u51 :: u52 :: u53 :: u54 :: u55 :: u56 :: u57 :: u58 :: u59 :: u60 :: u61 :: u62 :: u63 :: u64 :: u65 :: u66 :: u67 :: u68 :: u69 :: u70 :: u71 :: u72 :: u73 :: u74 :: u75 :: u76 :: u77 :: u78 :: u79 :: u80 :: u81 :: u82 :: u83 :: u84 :: u85 :: u86 :: u87 :: u88 :: u89 :: u90 :: u91 :: u92 :: u93 :: u94 :: u95 :: u96 :: u97 :: u98 :: u99 :: u100 :: u101 :: u102 :: u103 :: u104 :: u105 :: u106 :: u107 :: u108 :: u109 :: u110 :: u111 :: u112 :: u113 :: u114 :: u115 :: u116 :: u117 :: u118 :: u119 :: u120 :: u121 :: u122 :: u123 :: u124 :: u125 :: u126 :: u127 :: u128 :: u129 :: u130 :: u131 :: u132 :: u133 :: u134 :: u135 :: u136 :: u137 :: u138 :: u139 :: u140 :: u141 :: u142 :: u143 :: u144 :: u145 :: u146 :: u147 :: u148 :: u149 :: u150 :: u151 :: u152 :: u153 :: u154 :: u155 :: u156 :: u157 :: u158 :: u159 :: u160 :: u161 :: u162 :: u163 :: u164 :: u165 :: u166 :: u167 :: u168 :: u169 :: u170 :: u171 :: u172 :: u173 :: u174 :: u175 :: u176 :: u177 :: u178 :: u179 :: u180 :: u181 :: u182 :: u183 :: u184 :: u185 :: u186 :: u187 :: u188 :: u189 :: u190 :: u191 :: u192 :: u193 :: u194 :: u195 :: u196 :: u197 :: u198 :: u199 :: u200 :: u201 :: u202 :: u203 :: u204 :: u205 :: u206 :: u207 :: u208 :: u209 :: u210 :: u211 :: u212 :: u213 :: u214 :: u215 :: u216 :: u217 :: u218 :: u219 :: u220 :: u221 :: u222 :: u223 :: u224 :: u225 :: u226 :: u227 :: u228 :: u229 :: u230 :: u231 :: u232 :: u233 :: u234 :: u235 :: u236 :: u237 :: u238 :: u239 :: u240 :: u241 :: u242 :: u243 :: u244 :: u245 :: u246 :: u247 :: u248 :: u249 :: u250 :: u251 :: u252 :: u253 :: u254 :: u255 :: u256 :: u257 :: u258 :: u259 :: u260 :: u261 :: u262 :: u263 :: u264 :: u265 :: u266 :: u267 :: u268 :: u269 :: u270 :: u271 :: u272 :: u273 :: u274 :: u275 :: u276 :: u277 :: u278 :: u279 :: []), []⟩ w7 := by
  have HEx : Hid (∀ (v0 v1 v2 v3 v4 v5 v6 v7 v8 v9 v10 v11 v12 v13 v14 v15 v16 v17 v18 v19 v20 v21 v22 v23 v24 v25 v26 v27 v28 v29 v30 v31 v32 v33 v34 v35 v36 v37 v38 v39 v40 v41 v42 v43 v44 v45 v46 v47 v48 v49 v50 v51 v52 v53 v54 v55 v56 v57 v58 v59 v60 v61 v62 v63 v64 v65 v66 v67 v68 v69 v70 v71 v72 v73 v74 v75 v76 v77 v78 v79 v80 v81 v82 v83 v84 v85 v86 v87 v88 v89 v90 v91 v92 v93 v94 v95 v96 v97 v98 v99 v100 v101 v102 v103 v104 v105 v106 v107 v108 v109 v110 v111 v112 v113 v114 v115 v116 v117 v118 v119 v120 v121 v122 v123 v124 v125 v126 v127 v128 v129 v130 v131 v132 v133 v134 v135 v136 v137 v138 v139 v140 v141 v142 v143 v144 v145 v146 v147 v148 v149 v150 v151 v152 v153 v154 v155 v156 v157 v158 v159 v160 v161 v162 v163 v164 v165 v166 v167 v168 v169 v170 v171 v172 v173 v174 v175 v176 v177 v178 v179 v180 v181 v182 v183 v184 v185 v186 v187 v188 v189 v190 v191 v192 v193 v194 v195 v196 v197 v198 v199 v200 v201 v202 v203 v204 v205 v206 v207 v208 v209 v210 v211 v212 v213 v214 v215 v216 v217 v218 v219 v220 v221 v222 v223 v224 v225 v226 v227 v228 v229 v230 v231 v232 v233 v234 v235 v236 v237 v238 v239 v240 v241 v242 v243 v244 v245 v246 v247 v248 v249 v250 v251 v252 v253 v254 v255 v256 v257 v258 v259 v260 v261 v262 v263 v264 v265 v266 v267 v268 v269 v270 v271 v272 v273 v274 v275 v276 v277 v278 v279 : Value) (wr : World), Fr [] w1 wr → Q (.exit 0) ⟨List.toArray (v0 :: v1 :: v2 :: v3 :: v4 :: v5 :: v6 :: v7 :: v8 :: v9 :: v10 :: v11 :: v12 :: v13 :: v14 :: v15 :: v16 :: v17 :: v18 :: v19 :: v20 :: v21 :: v22 :: v23 :: v24 :: v25 :: v26 :: v27 :: v28 :: v29 :: v30 :: v31 :: v32 :: v33 :: v34 :: v35 :: v36 :: v37 :: v38 :: v39 :: v40 :: v41 :: v42 :: v43 :: v44 :: v45 :: v46 :: v47 :: v48 :: v49 :: v50 :: v51 :: v52 :: v53 :: v54 :: v55 :: v56 :: v57 :: v58 :: v59 :: v60 :: v61 :: v62 :: v63 :: v64 :: v65 :: v66 :: v67 :: v68 :: v69 :: v70 :: v71 :: v72 :: v73 :: v74 :: v75 :: v76 :: v77 :: v78 :: v79 :: v80 :: v81 :: v82 :: v83 :: v84 :: v85 :: v86 :: v87 :: v88 :: v89 :: v90 :: v91 :: v92 :: v93 :: v94 :: v95 :: v96 :: v97 :: v98 :: v99 :: v100 :: v101 :: v102 :: v103 :: v104 :: v105 :: v106 :: v107 :: v108 :: v109 :: v110 :: v111 :: v112 :: v113 :: v114 :: v115 :: v116 :: v117 :: v118 :: v119 :: v120 :: v121 :: v122 :: v123 :: v124 :: v125 :: v126 :: v127 :: v128 :: v129 :: v130 :: v131 :: v132 :: v133 :: v134 :: v135 :: v136 :: v137 :: v138 :: v139 :: v140 :: v141 :: v142 :: v143 :: v144 :: v145 :: v146 :: v147 :: v148 :: v149 :: v150 :: v151 :: v152 :: v153 :: v154 :: v155 :: v156 :: v157 :: v158 :: v159 :: v160 :: v161 :: v162 :: v163 :: v164 :: v165 :: v166 :: v167 :: v168 :: v169 :: v170 :: v171 :: v172 :: v173 :: v174 :: v175 :: v176 :: v177 :: v178 :: v179 :: v180 :: v181 :: v182 :: v183 :: v184 :: v185 :: v186 :: v187 :: v188 :: v189 :: v190 :: v191 :: v192 :: v193 :: v194 :: v195 :: v196 :: v197 :: v198 :: v199 :: v200 :: v201 :: v202 :: v203 :: v204 :: v205 :: v206 :: v207 :: v208 :: v209 :: v210 :: v211 :: v212 :: v213 :: v214 :: v215 :: v216 :: v217 :: v218 :: v219 :: v220 :: v221 :: v222 :: v223 :: v224 :: v225 :: v226 :: v227 :: v228 :: v229 :: v230 :: v231 :: v232 :: v233 :: v234 :: v235 :: v236 :: v237 :: v238 :: v239 :: v240 :: v241 :: v242 :: v243 :: v244 :: v245 :: v246 :: v247 :: v248 :: v249 :: v250 :: v251 :: v252 :: v253 :: v254 :: v255 :: v256 :: v257 :: v258 :: v259 :: v260 :: v261 :: v262 :: v263 :: v264 :: v265 :: v266 :: v267 :: v268 :: v269 :: v270 :: v271 :: v272 :: v273 :: v274 :: v275 :: v276 :: v277 :: v278 :: v279 :: []), []⟩ wr) := hexit
  clear hexit
  conv => arg 2; whnf
  go_loopw [5, 6] (fun tt ii wr => ∃ (at_ i : Nat), tt = .int .i64 at_ ∧ ii = .int .i64 i ∧ i ≤ L ∧ at_ ≤ Bn + 40 * i ∧ Hid (LnM wr lb l l s x q none []) ∧ Fr [] w1 wr) (fun _ ii _ => L - (intOf ii).toNat)
  case atStart => exact ⟨0, 0, rfl, rfl, Nat.zero_le _, by omega, HM7, hG7⟩
  case round =>
    clear HM7 hG7
    obtain ⟨at_, i, rfl, rfl, hiL, hat, HM, hFr⟩ := hrel
    obtain ⟨c0, c1, c2, c3, c4, c5⟩ := HBx.out _ hFr
    by_cases hi : i < L
    · have hi' : i < ts.length := by rw [← HL.out]; exact hi
      obtain ⟨bb, off, rfl, _, hc⟩ := (HTx.out _ hFr).lies (by omega)
      have hx := hc i hi'
      have HAt : Hid (∀ W, Fr [] w1 W → (ts.getD i Tm.zero).at W) := fun W hf => (HTx.out W hf).each _ (tgetD_mem ts i hi')
      obtain ⟨t, hxx⟩ : ∃ t, t = ts.getD i Tm.zero := ⟨_, rfl⟩
      rw [← hxx] at hx HAt
      clear hxx hc
      obtain ⟨n, xo, M, cm, ws⟩ := t
      obtain ⟨d0, d1⟩ := hx
      simp only at d0 d1
      have hA0 : TArg wr n xo M cm ws := HAt.out wr hFr
      have HMl : Hid (M = ws.length) := hA0.len
      have hM47 : M ≤ 140737488355328 := by rw [hA0.len]; exact hA0.rs.few
      have fu := Fr.alloc [] wr (.cells #[.int .i64 n, .slice xo M cm] 40)
      have hrowU := heap_alloc_new wr (.cells #[.int .i64 n, .slice xo M cm] 40)
      have hMu := HM.out.kept _ fu
      have hGu := hFr.then fu
      have hlbt := HM.out.lt
      obtain ⟨u, HU⟩ : ∃ u, Hid (wr.alloc (.cells #[.int .i64 n, .slice xo M cm] 40) = u) := ⟨_, rfl⟩
      obtain ⟨T7, HT7⟩ : ∃ T7, Hid (wr.heap.size = T7) := ⟨_, rfl⟩
      rw [HU.out] at hrowU hMu hGu
      rw [HT7.out] at hrowU hlbt
      have HTc : Hid (∀ W, Fr [lb] u W → W.cell? ⟨T7, 0, none⟩ = some (.int .i64 n) ∧ W.cell? ⟨T7, 1, none⟩ = some (.slice xo M cm)) := fun W hf => by
        have := hf.keep hrowU (by simp; omega)
        exact ⟨by rw [cell_of_row _ _ _ _ _ _ this]; rfl, by rw [cell_of_row _ _ _ _ _ _ this]; rfl⟩
      have HMu : Hid (LnM u lb l l s x q none []) := hMu
      have HAu : Hid (∀ W, Fr [] w1 W → TArg W n xo M cm ws) := HAt
      clear fu hMu hA0 HAt HM hrowU
      by_cases hok : ¬ okT n ws
      · have HK1 : ∀ y : Wd13 u, Calls Try.prog 14 #[.pointer (some ⟨lb, 0, none⟩), .agg #[.int .i64 n, .slice xo M cm]] y.W fun e w' => e = .returned (.int .i64 1) ∧ Fr [] y.W w' := fun y => ltake_bad n xo M cm ws (HMu.out.kept _ y.h) (HAu.out _ (hGu.then y.h)) hok
        have HK2 : ∀ y : Wd13 u, Calls Try.prog 15 #[.agg #[.int .i64 n, .slice xo M cm]] y.W fun e w' => e = .returned (.int .i64 1) ∧ Fr [] y.W w' := fun y => check_any n xo M cm 1 ws _ (HAu.out _ (hGu.then y.h)).rs HMl.out (HAu.out _ (hGu.then y.h)).n0 (HAu.out _ (hGu.then y.h)).n1 (.inr ⟨hok, rfl⟩)
        have g0 : ∀ y : Wd13 u, y.W.cell? ⟨T7, 0, none⟩ = some (.int .i64 n) := fun y => (HTc.out _ (y.h.mono (by simp))).1
        have g1 : ∀ y : Wd13 u, y.W.cell? ⟨T7, 1, none⟩ = some (.slice xo M cm) := fun y => (HTc.out _ (y.h.mono (by simp))).2
        clear hok
        go_upto_region 11 with fail
        rw [HU.out, HT7.out]
        clear HU HT7 d0 d1 c0 c1 c2 c3 c4 c5
        refine wp_region_wd13 (w1 := u) (by kernel_rfl) (by kernel_rfl) (Fr.refl _ _) ?_
        repeat (go_big_quiet_step (first
          | (go_at_call 14; with_reducible refine (HK1 _).mono ?_; exact fun e w3 hh => ⟨hh.1, ⟨_, Fr.then (Wd13.h _) hh.2⟩, rfl⟩)
          | (go_at_call 15; with_reducible refine (HK2 _).mono ?_; exact fun e w3 hh => ⟨hh.1, ⟨_, Fr.then (Wd13.h _) hh.2⟩, rfl⟩)))
        refine wpQuiet_nil ?_
        rintro _ ⟨z, rfl⟩
        have HKz := HK2 z
        have gz0 := g0 z
        have gz1 := g1 z
        obtain ⟨wz, hz⟩ := z
        simp only at HKz gz0 gz1 ⊢
        clear HK1 HK2 g0 g1
        go_wp2_with fail
        refine HKz.mono ?_
        rintro e w4 ⟨rfl, hF4⟩
        have HM4 := HMu.out.kept _ (hz.then hF4)
        have HH4 : Hid (Calls _ _ _ _ _) := lholds_any HM4
        simp only [holdsN] at HH4
        have hG4 := hGu.then (hz.then hF4)
        clear HKz gz0 gz1
        go_wp2_with fail
        refine Calls.mono HH4.out ?_
        rintro e w5 ⟨rfl, hF5⟩
        have HM5 : Hid (LnM w5 lb l l s x q none []) := HM4.kept _ hF5
        have hG5 := hG4.then hF5
        clear HM4 HH4 hG4 hF5 hF4
        go_wp2_with fail
        go_roundw
        case rel => exact ⟨at_, i + 1, rfl, by simp, by omega, by omega, HM5, hG5⟩
        case measure => simp [intOf]; omega
      · have hok := Classical.not_not.1 hok
        have HOk : Hid (okT n ws) := hok
        have hM32 : M ≤ 32 := by rw [HMl.out]; exact hok.2.2.1
        have hn0 : 1 ≤ n := hok.1
        have HTk : Hid (∀ W, Fr [] u W → Calls Try.prog 14 #[.pointer (some ⟨lb, 0, none⟩), .agg #[.int .i64 n, .slice xo M cm]] W fun e w' => ∃ S', e = .returned (.int .i64 0) ∧ LnM w' lb l l s x q (some ⟨n, dd ws, 0⟩) S' ∧ (∀ k ∈ S', W.heap.size ≤ k ∧ k < w'.heap.size) ∧ Fr [lb] W w') := fun W hf => ltake_any n xo M cm ws (HMu.out.kept _ hf) (HAu.out _ (hGu.then hf)) HOk.out
        have HCk : Hid (∀ W, Fr [] w1 W → Calls Try.prog 15 #[.agg #[.int .i64 n, .slice xo M cm]] W fun e w' => e = .returned (.int .i64 0) ∧ Fr [] W w') := fun W hf => check_any n xo M cm 0 ws W (HAu.out _ hf).rs HMl.out (HAu.out _ hf).n0 (HAu.out _ hf).n1 (.inl ⟨HOk.out, rfl⟩)
        have HGo : Hid (∀ W w', Fr [] u W → Fr [lb] W w' → Fr [] w1 w' ∧ Fr [lb] u w') := fun W w' h1 h2 => ⟨(hGu.then h1).on h2 (by intro k hk; simp at hk; omega), (h1.mono (by simp)).then h2⟩
        clear hok
        go_upto_region 11 with fail
        rw [HU.out, HT7.out]
        clear HU HT7 d0 d1 c0 c1 c2 c3 c4 c5
        obtain ⟨t0, t1⟩ := HTc.out u (Fr.refl _ _)
        obtain ⟨t0', t1'⟩ : u.drew.cell? ⟨T7, 0, none⟩ = some (.int .i64 n) ∧ u.drew.cell? ⟨T7, 1, none⟩ = some (.slice xo M cm) := ⟨t0, t1⟩
        go_region_held3 (fun W => W.cell? ⟨T7, 0, none⟩ = some (.int .i64 n) ∧ W.cell? ⟨T7, 1, none⟩ = some (.slice xo M cm)) (go_keep)
          (first
            | (go_at_call 14; with_reducible refine Calls.mono (HTk.out _ (Fr.drew [] _)) ?_; rintro e w4 ⟨S, rfl, hM4, hS4, hF4⟩; obtain ⟨hG4, hU4⟩ := HGo.out _ w4 (Fr.drew [] _) hF4; obtain ⟨j0, j1⟩ := HTc.out w4 hU4)
            | (go_at_call 15; with_reducible refine Calls.mono (HCk.out _ hG4) ?_; rintro e w5 ⟨rfl, hF5⟩; obtain ⟨j2, j3⟩ := HTc.out w5 (hU4.then (hF5.mono (by simp)))))
        have HM5 := hM4.kept _ hF5
        have hG5 := hG4.then hF5
        have hU5 := hU4.then (hF5.mono (T := [lb]) (by simp))
        have hS5 : ∀ k ∈ S, u.heap.size ≤ k ∧ k < w5.heap.size := fun k hk => ⟨(hS4 k hk).1, Nat.lt_of_lt_of_le (hS4 k hk).2 hF5.size⟩
        clear hM4 hF4 hF5 hG4 hU4 hS4 t0 t1 t0' t1' HTk j0 j1
        go_wp2_with fail
        refine Calls.mono (HCk.out _ hG5) ?_
        rintro e w6 ⟨rfl, hF6⟩
        have HM6 : Hid (LnM w6 lb l l s x q (some ⟨n, ddFrom ws 0, 0⟩) S) := HM5.kept _ hF6
        have hG6 := hG5.then hF6
        have hU6 := hU5.then (hF6.mono (T := [lb]) (by simp))
        have HS6 : Hid (∀ k ∈ S, u.heap.size ≤ k ∧ k < w6.heap.size) := fun k hk => ⟨(hS5 k hk).1, Nat.lt_of_lt_of_le (hS5 k hk).2 hF6.size⟩
        have hus := hGu.size
        have HStep : Hid (∀ W w', Fr [] w1 W → Fr [lb] u W → Fr (lb :: S) W w' → Fr [] w1 w' ∧ Fr [lb] u w') := fun W w' h1 h2 h3 => by
          refine ⟨h1.on h3 ?_, h2.trans h3 (fun _ x _ => x) ?_⟩
          · intro k hk
            simp only [List.mem_cons] at hk
            rcases hk with rfl | hk
            · exact hlb1
            · have := (HS6.out k hk).1; omega
          · intro k hk hlt
            simp only [List.mem_cons] at hk
            rcases hk with rfl | hk
            · simp
            · have := (HS6.out k hk).1; omega
        have hlb6 : lb < w6.heap.size := HM6.out.lt
        clear HM5 hF6 hG5 hU5 hS5 HGo HCk hGu HMu j2 j3
        go_wp2_with fail
        go_loopw [5, 8, 9] (fun tt oo kk wr => ∃ (a O k : Nat), tt = .int .i64 a ∧ oo = .int .i64 O ∧ kk = .int .i64 k ∧ k ≤ M ∧ O ≤ k ∧ a ≤ Bn + 40 * i + k ∧ Hid (LnM wr lb l l s x q (some ⟨n, ddFrom ws k, O⟩) S) ∧ Fr [] w1 wr ∧ Fr [lb] u wr ∧ w6.heap.size ≤ wr.heap.size) (fun _ _ kk _ => M - (intOf kk).toNat)
        case atStart => exact ⟨at_, 0, 0, rfl, rfl, rfl, Nat.zero_le _, Nat.le_refl _, by omega, HM6, hG6, hU6, Nat.le_refl _⟩
        case round =>
          clear HM6 hG6 hU6
          obtain ⟨a, O, k, rfl, rfl, rfl, hkM, hOk, ha, HM, hG, hU, hsz⟩ := hrel
          obtain ⟨t0, t1⟩ := HTc.out _ hU
          by_cases hk : k < M
          · have hk' : k < ws.length := by rw [← HMl.out]; exact hk
            have hAw := HAu.out _ hG
            obtain ⟨b2, o2, hxo, _, hcw⟩ := hAw.rs.lies (by omega)
            subst hxo
            rw [← HMl.out] at hcw
            have HKt : Hid (kAt ws k = (ws.getD k Wt.zero).key) := rfl
            obtain ⟨e0, e1, e2⟩ := hcw k hk
            have hokw := HOk.out.2.2.2 _ (wgetD_mem ws k hk')
            have HYs : Hid (Kept ws k → ddFrom ws k = ws.getD k Wt.zero :: ddFrom ws (k + 1)) := fun h => ddFrom_yes hk' h
            have HNo : Hid (¬ Kept ws k → ddFrom ws k = ddFrom ws (k + 1)) := fun h => ddFrom_no h
            obtain ⟨y, hy⟩ : ∃ y, y = ws.getD k Wt.zero := ⟨_, rfl⟩
            rw [← hy] at e0 e1 e2 hokw HYs HKt
            have HY : Hid (y = ws.getD k Wt.zero) := hy
            clear hy hAw
            obtain ⟨ky, vl, dp⟩ := y
            simp only at e0 e1 e2 HKt
            go_wp2_with fail
            refine trips_l3 (ws := ws) t1 hcw e0 hk hM32 ?_
            intro y11 y91 y92 y93 y94 y95 y96 y97 y98 y99 y100 y101 y102 y103 y104 y105 y106 y107 y108 y109 y110 y111 y112 y113 B z HB
            cases B with
            | true =>
              have HNk : Hid (¬ Kept ws k) := by
                obtain ⟨j, h1, h2, h3⟩ := HB.out.1 rfl
                exact fun hK => hK j h1 (by rw [← HMl.out]; exact h2) (by rw [h3, HKt.out])
              have HM2 : Hid (LnM (wr.drewN z) lb l l s x q (some ⟨n, ddFrom ws (k + 1), O⟩) S) := by
                rw [← HNo.out HNk.out]
                exact HM.out.kept _ (Fr.drewN _ _ _)
              have hG2 := hG.then (Fr.drewN [] _ z)
              have hU2 := hU.then (Fr.drewN [lb] _ z)
              have hsz2 : w6.heap.size ≤ (wr.drewN z).heap.size := hsz
              go_wp2_with fail
              go_roundw
              case rel => exact ⟨a, O, k + 1, rfl, rfl, by simp, by omega, by omega, by omega, HM2, hG2, hU2, hsz2⟩
              case measure => simp [intOf]; omega
            | false =>
              have HKp : Hid (Kept ws k) := by
                intro j h1 h2 h3
                have := HB.out.2 ⟨j, h1, by rw [HMl.out]; exact h2, by rw [h3, HKt.out]⟩
                cases this
              have HYk : Hid (ddFrom ws k = ⟨ky, vl, dp⟩ :: ddFrom ws (k + 1)) := HYs.out HKp.out
              obtain ⟨rest, HRest⟩ : ∃ rest, Hid (ddFrom ws (k + 1) = rest) := ⟨_, rfl⟩
              have HM2 : Hid (LnM (wr.drewN z) lb l l s x q (some ⟨n, ⟨ky, vl, dp⟩ :: rest, O⟩) S) := by
                rw [← HRest.out, ← HYk.out]
                exact HM.out.kept _ (Fr.drewN _ _ _)
              have hG2 := hG.then (Fr.drewN [] _ z)
              have hU2 := hU.then (Fr.drewN [lb] _ z)
              have hsz2 : w6.heap.size ≤ (wr.drewN z).heap.size := hsz
              obtain ⟨wd, hwd⟩ : ∃ wd, wd = wr.drewN z := ⟨_, rfl⟩
              rw [← hwd] at HM2 hG2 hU2 hsz2 ⊢
              obtain ⟨sh, HSh⟩ : ∃ sh : Int, Hid (sh = (Cf.shard ⟨l, s, x, q⟩ ky).1) := ⟨_, rfl⟩
              have HSd : Hid (Cf.shard ⟨l, s, x, q⟩ ky = (sh, 0)) := by
                show _ = _
                have hz : 1 ≤ ky.size ∧ ky.size ≤ 64 := ⟨hokw.1, hokw.2.1⟩
                rw [HSh.out]
                simp only [Cf.shard, HMay.out, hz]
                simp
              have hks : ky.size ≤ 9223372036854775807 := by have := hokw.2.1; simp only at this; omega
              have HX : Hid (Calls _ _ _ _ _) := lnext_any HM2.out
              simp only [nextS, nextR, nextB, Rq.v, ← HSh.out] at HX
              clear hwd HM hG hU hsz HB hcw e0 e1 e2 t0 t1 hokw HYs HNo HKp HYk HSh HKt
              obtain ⟨t0, t1⟩ := HTc.out _ hU2
              go_wp2_with fail
              refine Calls.mono HX.out ?_
              rintro e wA ⟨rfl, hFA⟩
              have fv := Fr.alloc [] wA (.cells #[.int .u8 1, .int .i64 l, .int .i64 n, .string ky, .string vl, .bool dp, .string ⟨#[]⟩, .string ⟨#[]⟩, .slice none 0 0] 59)
              have hrowR0 := heap_alloc_new wA (.cells #[.int .u8 1, .int .i64 l, .int .i64 n, .string ky, .string vl, .bool dp, .string ⟨#[]⟩, .string ⟨#[]⟩, .slice none 0 0] 59)
              have hMv := HM2.out.kept _ (hFA.then fv)
              have hGv := hG2.then (hFA.then fv)
              have hUv := hU2.then ((hFA.then fv).mono (T := [lb]) (by simp))
              have hsA := hFA.size
              have hsv := (hFA.then fv).size
              obtain ⟨v, HV⟩ : ∃ v, Hid (wA.alloc (.cells #[.int .u8 1, .int .i64 l, .int .i64 n, .string ky, .string vl, .bool dp, .string ⟨#[]⟩, .string ⟨#[]⟩, .slice none 0 0] 59) = v) := ⟨_, rfl⟩
              obtain ⟨R, HR⟩ : ∃ R, Hid (wA.heap.size = R) := ⟨_, rfl⟩
              rw [HV.out] at hrowR0 hMv hGv hUv hsv
              rw [HR.out] at hrowR0 hsA
              have hRn : R ∉ lb :: S := by
                simp only [List.mem_cons, not_or]
                exact ⟨by omega, fun hk => by have := (HS6.out _ hk).2; omega⟩
              have HMv : Hid (LnM v lb l l s x q (some ⟨n, ⟨ky, vl, dp⟩ :: rest, O⟩) S) := hMv
              have hsv' : w6.heap.size ≤ v.heap.size := by omega
              have HAll : Hid (∀ W, Fr (lb :: S) v W → Rd28 W T7 B0 R b2 o2 k M cm n l ky vl dp) := fun W hf => by
                obtain ⟨hg, hu⟩ := HStep.out v W hGv hUv hf
                obtain ⟨x0, x1⟩ := HTc.out _ hu
                obtain ⟨y0, _⟩ := HBx.out _ hg
                have hrow := hf.keep hrowR0 hRn
                obtain ⟨b', o', e', _, hc'⟩ := (HAu.out _ hg).rs.lies (by omega)
                cases e'
                obtain ⟨z0, z1, z2⟩ := hc' k hk'
                rw [← HY.out] at z0 z1 z2
                unfold Rd28
                exact ⟨x0, x1, y0, by rw [cell_of_row _ _ _ _ _ _ hrow]; rfl, by rw [cell_of_row _ _ _ _ _ _ hrow]; rfl, by rw [cell_of_row _ _ _ _ _ _ hrow]; rfl, by rw [cell_of_row _ _ _ _ _ _ hrow]; rfl, by rw [cell_of_row _ _ _ _ _ _ hrow]; rfl, by rw [cell_of_row _ _ _ _ _ _ hrow]; rfl, z0, z1, z2⟩
              have HShd : ∀ W, Calls Try.prog 18 #[.agg #[.int .i64 l, .int .i64 s, .int .i64 x, .int .i64 q], .string ky] W fun e w' => e = .returned (.tuple #[.int .i64 sh, .int .i64 0]) ∧ Fr [] W w' := fun W => by
                have := shard_any l s x q ky W hks
                rw [HSd.out] at this
                exact this
              have HGv : Hid (Fr [] w1 v) := hGv
              have HUv : Hid (Fr [lb] u v) := hUv
              have HRd : Hid (∀ W, Fr [] v W → Calls Try.prog 19 #[.pointer (some ⟨lb, 0, none⟩)] W fun e w' => e = .returned (.bool false) ∧ Fr [] W w') := fun W hf => by
                have := lready_any (HMv.out.kept _ hf)
                rw [show readyB (some ⟨n, ⟨ky, vl, dp⟩ :: rest, O⟩) = false by simp [readyB]] at this
                exact this
              have HHo : Hid (∀ W, Fr [] v W → Calls Try.prog 16 #[.pointer (some ⟨lb, 0, none⟩)] W fun e w' => e = .returned (.int .i64 n) ∧ Fr [] W w') := fun W hf => lholds_any (HMv.out.kept _ hf)
              have HSe : Hid (∀ W, Fr [] v W → Calls Try.prog 20 #[.pointer (some ⟨lb, 0, none⟩)] W fun e w' => e = .returned (.int .i64 0) ∧ LnM w' lb l l s x q (some ⟨n, rest, O + 1⟩) S ∧ Fr (lb :: S) W w') := fun W hf => lsent_any (HMv.out.kept _ hf)
              clear t0 t1 fv hFA hMv hGv hUv hsA hsv HM2 hG2 hU2 hsz2 HX HMv hrowR0 hks HSd
              go_upto_region 27 with fail
              rw [HV.out, HR.out]
              clear HV HR
              have p0 : ∀ y : Wd13 v, y.W.cell? ⟨B0, 0, none⟩ = some (.int .i64 l) := fun y => (HBx.out _ (HGv.out.then y.h)).1
              have p1 : ∀ y : Wd13 v, y.W.cell? ⟨B0, 1, none⟩ = some (.int .i64 s) := fun y => (HBx.out _ (HGv.out.then y.h)).2.1
              have p2 : ∀ y : Wd13 v, y.W.cell? ⟨B0, 2, none⟩ = some (.int .i64 x) := fun y => (HBx.out _ (HGv.out.then y.h)).2.2.1
              have p3 : ∀ y : Wd13 v, y.W.cell? ⟨B0, 3, none⟩ = some (.int .i64 q) := fun y => (HBx.out _ (HGv.out.then y.h)).2.2.2.1
              have p4 : ∀ y : Wd13 v, y.W.cell? ⟨T7, 1, none⟩ = some (.slice (some ⟨b2, o2, none⟩) M cm) := fun y => by have := HAll.out _ (y.h.mono (T := lb :: S) (by simp)); unfold Rd28 at this; exact this.2.1
              have p5 : ∀ y : Wd13 v, y.W.cell? ⟨b2, o2 + k * 3, none⟩ = some (.string ky) := fun y => by have := HAll.out _ (y.h.mono (T := lb :: S) (by simp)); unfold Rd28 at this; exact this.2.2.2.2.2.2.2.2.2.1
              refine wp_region_wd13 (w1 := v) (by kernel_rfl) (by kernel_rfl) (Fr.refl _ _) ?_
              repeat (go_big_quiet_step (first
                | (go_at_call 18; with_reducible refine (HShd _).mono ?_; exact fun e w3 hh => ⟨hh.1, ⟨_, Fr.then (Wd13.h _) hh.2⟩, rfl⟩)))
              refine wpQuiet_nil ?_
              rintro _ ⟨zz, rfl⟩
              clear p0 p1 p2 p3 p4 p5 HShd
              obtain ⟨wz, hz⟩ := zz
              simp only
              go_wp2_with fail
              refine seg28 (st := some ⟨n, rest, O + 1⟩) hk hM32 HAll HRd HHo HSe hz ?_
              intro v133 v134 v135 v136 v137 v138 v139 v140 v141 v142 v143 v144 v145 v146 v147 v148 v149 v150 v151 v152 v153 v154 v155 v156 v157 v158 v159 v160 v161 v162 v163 v164 v165 v166 v167 v168 v169 v170 v171 v172 v173 v174 v175 v176 v177 v178 v179 v180 v181 v182 v183 v184 v185 v186 v187 v188 wc hMc hVc
              obtain ⟨hGc, hUc⟩ := HStep.out v wc HGv.out HUv.out hVc
              have HMc : Hid (LnM wc lb l l s x q (some ⟨n, rest, O + 1⟩) S) := hMc
              have hsc : w6.heap.size ≤ wc.heap.size := Nat.le_trans hsv' hVc.size
              clear hMc hVc HAll hz HSe HHo HRd HGv HUv hsv'
              have HB5 : Hid (∀ W, Fr [] w1 W → W.cell? ⟨B0, 5, none⟩ = some (.slice bo Bn bc)) := fun W hf => (HBx.out W hf).2.2.2.2.2
              go_wp2_with fail
              rw [show (O : Int) + 1 = ((O + 1 : Nat) : Int) from by simp]
              refine trips_l4 (rest := rest) (A1 := Bn + 40 * i + k) HB5 HBs HStep hBn (by omega) (by omega) ha (by omega) HMc hGc hUc hsc ?_
              intro y2 y192 y193 y194 y195 y196 y197 y198 y199 y200 y201 y202 y203 y204 y205 y206 y207 y208 y209 y210 y211 y212 y213 y214 y215 y216 w9 a2 O2 hq9
              obtain ⟨hO2, ha2, hM9, hG9, hU9, hs9⟩ := hq9
              have HMn : Hid (LnM w9 lb l l s x q (some ⟨n, ddFrom ws (k + 1), O2⟩) S) := by rw [HRest.out]; exact hM9
              clear HMc hGc hUc hsc hM9 HB5
              go_wp2_with fail
              go_roundw
              case rel => exact ⟨a2 + 1, O2, k + 1, by simp, rfl, by simp, by omega, by omega, by omega, HMn, hG9, hU9, hs9⟩
              case measure => simp [intOf]; omega
          · have hMk : M = k := by omega
            subst hMk
            clear hk hkM
            have HM2 : Hid (LnM wr lb l l s x q (some ⟨n, [], O⟩) S) := by
              rw [← ddFrom_end ws, ← HMl.out]
              exact HM
            have HX : Hid (Calls _ _ _ _ _) := lnext_any HM2.out
            simp only [nextS, nextR, nextB, Rq.v, Rq.zero, Wt.zero] at HX
            clear HM
            go_wp2_with fail
            refine Calls.mono HX.out ?_
            rintro e wA ⟨rfl, hFA⟩
            have fv := Fr.alloc [] wA (.cells #[.int .u8 0, .int .i64 0, .int .i64 0, .string ⟨#[]⟩, .string ⟨#[]⟩, .bool false, .string ⟨#[]⟩, .string ⟨#[]⟩, .slice none 0 0] 59)
            have HMv : Hid (LnM _ lb l l s x q (some ⟨n, [], O⟩) S) := HM2.out.kept _ (hFA.then fv)
            have hGv := hG.then (hFA.then fv)
            have hUv := hU.then ((hFA.then fv).mono (T := [lb]) (by simp))
            have HSe : Hid (Calls _ _ _ _ _) := lsent_any HMv.out
            simp only [sentE, sentS] at HSe
            clear HX HM2 hG hU hsz t0 t1 HMv
            go_wp2_with fail
            refine Calls.mono HSe.out ?_
            rintro e w8 ⟨rfl, hM8, hF8⟩
            obtain ⟨hG8, hU8⟩ := HStep.out _ w8 hGv hUv hF8
            have HM8 : Hid (LnM w8 lb l l s x q (some ⟨n, [], O⟩) S) := hM8
            clear hM8 hF8 hGv hUv HSe fv hFA
            go_wp2_with fail
            refine trips_l5 HStep (by omega) HM8 hG8 hU8 ?_
            intro y2 y20 y21 y231 y232 y233 y234 y235 y236 y237 y238 y239 y240 y241 y242 y243 y244 y245 y246 y247 y248 y249 y250 w9 hq9
            obtain ⟨hM9, hG9, hU9⟩ := hq9
            have HM9 : Hid (LnM w9 lb l l s x q (some ⟨n, [], 0⟩) S) := hM9
            clear HM8 hG8 hU8 hM9
            have HRd : Hid (Calls _ _ _ _ _) := lready_any HM9.out
            rw [show readyB (some ⟨n, [], 0⟩) = true by simp [readyB]] at HRd
            go_wp2_with fail
            refine Calls.mono HRd.out ?_
            rintro e wa ⟨rfl, hFa⟩
            have HDn : Hid (Calls _ _ _ _ _) := ldone_any (HM9.out.kept _ hFa)
            rw [show doneN (some ⟨n, [], 0⟩) = n by simp [doneN, readyB, holdsN], show doneE (some ⟨n, [], 0⟩) = 0 by simp [doneE, readyB], show doneS (some ⟨n, [], 0⟩) = none by simp [doneS, readyB]] at HDn
            have hGa := hG9.then hFa
            have hUa := hU9.then (hFa.mono (T := [lb]) (by simp))
            clear HRd hFa hG9 hU9 HM9
            go_wp2_with fail
            refine Calls.mono HDn.out ?_
            rintro e wb ⟨rfl, hMb, hFb⟩
            obtain ⟨hGb, hUb⟩ := HStep.out _ wb hGa hUa hFb
            have HAk : Hid (Calls _ _ _ _ _) := lacked_any hMb
            simp only [ackE, ackS] at HAk
            clear hMb hFb hGa hUa HDn
            go_wp2_with fail
            refine Calls.mono HAk.out ?_
            rintro e wc ⟨rfl, hMc, hFc⟩
            obtain ⟨hGc, hUc⟩ := HStep.out _ wc hGb hUb hFc
            obtain ⟨t0, t1⟩ := HTc.out _ hUc
            have HHo : Hid (Calls _ _ _ _ _) := lholds_any hMc
            simp only [holdsN] at HHo
            have HMc : Hid (∀ W, Fr [] wc W → LnM W lb l l s x q none []) := fun W hf => LnB.keep hMc hf (by simp)
            have hnn : (n != n) = false := by simp
            clear hMc hFc hGb hUb HAk
            go_wp2_with fail
            refine Calls.mono HHo.out ?_
            rintro e wd ⟨rfl, hFd⟩
            have HMd : Hid (LnM wd lb l l s x q none []) := HMc.out _ hFd
            have hGd := hGc.then hFd
            clear HMc HHo hFd t0 t1 hGc hUc
            go_wp2_with fail
            go_roundw
            case rel => exact ⟨a, i + 1, rfl, by simp, by omega, by omega, HMd, hGd⟩
            case measure => first | (simp [intOf]; done) | (simp [intOf]; omega)
    · have hi' : ¬ ((i : Int) < (L : Int)) := by omega
      have HG5 : Hid (Fr [] w1 wr) := hFr
      go_wp2_with fail
      exact HEx.out _ _ _ _ _ _ _ _ _ _ _ _ _ _ _ _ _ _ _ _ _ _ _ _ _ _ _ _ _ _ _ _ _ _ _ _ _ _ _ _ _ _ _ _ _ _ _ _ _ _ _ _ _ _ _ _ _ _ _ _ _ _ _ _ _ _ _ _ _ _ _ _ _ _ _ _ _ _ _ _ _ _ _ _ _ _ _ _ _ _ _ _ _ _ _ _ _ _ _ _ _ _ _ _ _ _ _ _ _ _ _ _ _ _ _ _ _ _ _ _ _ _ _ _ _ _ _ _ _ _ _ _ _ _ _ _ _ _ _ _ _ _ _ _ _ _ _ _ _ _ _ _ _ _ _ _ _ _ _ _ _ _ _ _ _ _ _ _ _ _ _ _ _ _ _ _ _ _ _ _ _ _ _ _ _ _ _ _ _ _ _ _ _ _ _ _ _ _ _ _ _ _ _ _ _ _ _ _ _ _ _ _ _ _ _ _ _ _ _ _ _ _ _ _ _ _ _ _ _ _ _ _ _ _ _ _ _ _ _ _ _ _ _ _ _ _ _ _ _ _ _ _ _ _ _ _ _ _ _ _ _ _ _ _ _ _ _ _ _ _ _ _ _ _ _ _ _ _ _ _ wr HG5.out
end Go.Proofs.Ytgladhebgnngdaa
