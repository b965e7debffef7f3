/- The walk of the law LaneTrips. Conditions: a configuration, transactions and bytes that came in. -/
import Derived.Test.YtgladhebgnngdaaLa14
import Derived.Test.YtgladhebgnngdaaTl14
import Derived.Test.YtgladhebgnngdaaSz11
import Derived.Test.YtgladhebgnngdaaTp14
namespace Go.Proofs.Ytgladhebgnngdaa
open Go.ChangeShapes Go.WideShapes Go.ChangeAt Go.RowKit Go.Lib Go.Maps
set_option linter.unusedVariables false
set_option linter.unusedSimpArgs false

theorem ddFrom_len (ws : List Wt) (k : Nat) : (ddFrom ws k).length ≤ ws.length := by
  unfold ddFrom
  rw [List.length_drop]
  have := dd_len ws
  omega
set_option maxHeartbeats 40000000 in
set_option maxRecDepth 100000 in
theorem trips_walk (l s x q : Int) (ao : Option Addr) (L cap : Nat) (ts : List Tm) (bo : Option Addr) (Bn bc : Nat) (bs : List Nat) (w : World) (hC : Cf.ok ⟨l, s, x, q⟩) (hT : TRs w ao ts) (hLe : L = ts.length) (hB : BArg w bo Bn bc bs) (hBn : Bn ≤ 140737488351232) :
    Calls Try.prog 4 #[.agg #[.int .i64 l, .int .i64 s, .int .i64 x, .int .i64 q, .slice ao L cap, .slice bo Bn bc]] w fun e w' => e = .returned (.bool true) ∧ Fr [] w w' := by
  have hF1 : Fr [] w (w.alloc (.cells #[.int .i64 l, .int .i64 s, .int .i64 x, .int .i64 q, .slice ao L cap, .slice bo Bn bc] 47)) := Fr.alloc _ _ _
  have hrow1 := heap_alloc_new w (.cells #[.int .i64 l, .int .i64 s, .int .i64 x, .int .i64 q, .slice ao L cap, .slice bo Bn bc] 47)
  obtain ⟨w1, HW1⟩ : ∃ w1, Hid (w.alloc (.cells #[.int .i64 l, .int .i64 s, .int .i64 x, .int .i64 q, .slice ao L cap, .slice bo Bn bc] 47) = w1) := ⟨_, rfl⟩
  obtain ⟨B0, HB0⟩ : ∃ B0, Hid (w.heap.size = B0) := ⟨_, rfl⟩
  rw [HW1.out] at hrow1 hF1
  rw [HB0.out] at hrow1
  have HBx : Hid (∀ W, Fr [] w1 W → W.cell? ⟨B0, 0, none⟩ = some (.int .i64 l) ∧ W.cell? ⟨B0, 1, none⟩ = some (.int .i64 s) ∧ W.cell? ⟨B0, 2, none⟩ = some (.int .i64 x) ∧ W.cell? ⟨B0, 3, none⟩ = some (.int .i64 q) ∧ W.cell? ⟨B0, 4, none⟩ = some (.slice ao L cap) ∧ W.cell? ⟨B0, 5, none⟩ = some (.slice bo Bn bc)) := fun W hf => by
    have := hf.keep hrow1 (by simp)
    exact ⟨by rw [cell_of_row _ _ _ _ _ _ this]; rfl, by rw [cell_of_row _ _ _ _ _ _ this]; rfl, by rw [cell_of_row _ _ _ _ _ _ this]; rfl, by rw [cell_of_row _ _ _ _ _ _ this]; rfl, by rw [cell_of_row _ _ _ _ _ _ this]; rfl, by rw [cell_of_row _ _ _ _ _ _ this]; rfl⟩
  have HTx : Hid (∀ W, Fr [] w1 W → TRs W ao ts) := fun W hf => hT.keep (hF1.then hf)
  have HBs : Hid (∀ W, Fr [] w1 W → BArg W bo Bn bc bs) := fun W hf => hB.keep (hF1.then hf)
  have HAl : Hid (∀ W, Calls _ _ _ _ _) := fun W => alive14_any W
  have HF1 : Hid (Fr [] w w1) := hF1
  have HL : Hid (L = ts.length) := hLe
  have hL47 : L ≤ 140737488355328 := by rw [hLe]; exact hT.few
  clear hF1 hrow1 hT hB hLe hC
  go_enter Try.func4, Try.ntmps4
  go_upto_region 1 with fail
  rw [HW1.out, HB0.out]
  clear HW1 HB0
  go_wp2_with fail
  refine Calls.mono (HAl.out _) ?_
  rintro e w2 ⟨rfl, hG2⟩
  obtain ⟨c0, c1, c2, c3, c4, c5⟩ := HBx.out _ hG2
  have HC2 := check_cells l s x q w2
  by_cases hm : ¬ Cf.may ⟨l, s, x, q⟩
  · have E : Cf.err ⟨l, s, x, q⟩ = 7 := if_neg hm
    rw [E] at HC2
    clear E hm
    go_wp2_with fail
    refine HC2.mono ?_
    rintro e w3 ⟨rfl, hF3⟩
    have hG3 := hG2.then hF3
    clear HC2 c0 c1 c2 c3 c4 c5 hG2 hF3
    go_wp2_with fail
    refine Calls.mono (HAl.out _) ?_
    rintro e w4 ⟨rfl, hF4⟩
    go_wp2
    go_ret
    exact ⟨rfl, HF1.out.then (hG3.then hF4)⟩
  have hm := Classical.not_not.1 hm
  have E : Cf.err ⟨l, s, x, q⟩ = 0 := if_pos hm
  rw [E] at HC2
  have hl1 : newE ⟨l, s, x, q⟩ l = 0 := by
    have := hm.1
    simp only [newE, hm]
    simp only [not_true, if_false]
    rw [if_pos]
    exact ⟨this.1, Int.le_refl _⟩
  have hlb0 : 1 ≤ l ∧ l ≤ 16 := hm.1
  have HMay : Hid (Cf.may ⟨l, s, x, q⟩) := hm
  clear E hm
  go_wp2_with fail
  refine HC2.mono ?_
  rintro e w3 ⟨rfl, hF3⟩
  have hG3 := hG2.then hF3
  clear HC2 c0 c1 c2 c3 c4 c5 hG2 hF3
  obtain ⟨c0, c1, c2, c3, c4, c5⟩ := HBx.out _ hG3
  go_wp2_with fail
  refine (txnsSize11 ao L cap ts _ (HTx.out _ hG3) HL.out).mono ?_
  rintro e w5 ⟨N, rfl, hN, hF5⟩
  have hG5 := (hG3.then hF5).then (Fr.alloc [] w5 (.cells #[.int .i64 (N : Int)] 3))
  clear hF5 hG3 c0 c1 c2 c3 c4 c5
  go_wp2_with fail
  refine (beyond_any w5.heap.size N _ (by omega) (by simp)).mono ?_
  rintro e w6 ⟨rfl, rfl⟩
  obtain ⟨w6, HW6⟩ : ∃ w6, Hid (w5.alloc (.cells #[.int .i64 (N : Int)] 3) = w6) := ⟨_, rfl⟩
  rw [HW6.out] at hG5 ⊢
  obtain ⟨Bq, hBq⟩ : ∃ Bq, Bq = decide (1048576 < N) := ⟨_, rfl⟩
  rw [← hBq]
  clear HW6 hBq hN
  cases Bq with
  | true =>
    go_wp2_with fail
    refine Calls.mono (HAl.out _) ?_
    rintro e w7 ⟨rfl, hF7⟩
    go_wp2
    go_ret
    exact ⟨rfl, HF1.out.then (hG5.then hF7)⟩
  | false =>
    obtain ⟨c0, c1, c2, c3, c4, c5⟩ := HBx.out _ hG5
    by_cases hbig : 100 < L
    · have hb' : (100 : Int) < L := by omega
      clear hbig
      go_wp2_with fail
      refine Calls.mono (HAl.out _) ?_
      rintro e w7 ⟨rfl, hF7⟩
      go_wp2
      go_ret
      exact ⟨rfl, HF1.out.then (hG5.then hF7)⟩
    have hb' : ¬ (100 : Int) < L := by omega
    have hL100 : L ≤ 100 := by omega
    clear hbig
    go_wp2_with fail
    refine Calls.mono (lnew_any hl1 _) ?_
    rintro e w7 ⟨lb, rfl, hlb, hM7, hF7⟩
    have hG7 := hG5.then hF7
    have hlb1 : w1.heap.size ≤ lb := by have := hG5.size; omega
    have HM7 : Hid (LnM w7 lb l l s x q none []) := hM7
    clear c0 c1 c2 c3 c4 c5 hl1 hF7 hlb hG5 hM7 hb'
    go_wp2_with fail
    refine trips_loop HBx HTx HBs HL HMay hL100 hBn hlb0 hlb1 HM7 hG7 ?_
    intro v0 v1 v2 v3 v4 v5 v6 v7 v8 v9 v10 v11 v12 v13 v14 v15 v16 v17 v18 v19 v20 v21 v22 v23 v24 v25 v26 v27 v28 v29 v30 v31 v32 v33 v34 v35 v36 v37 v38 v39 v40 v41 v42 v43 v44 v45 v46 v47 v48 v49 v50 v51 v52 v53 v54 v55 v56 v57 v58 v59 v60 v61 v62 v63 v64 v65 v66 v67 v68 v69 v70 v71 v72 v73 v74 v75 v76 v77 v78 v79 v80 v81 v82 v83 v84 v85 v86 v87 v88 v89 v90 v91 v92 v93 v94 v95 v96 v97 v98 v99 v100 v101 v102 v103 v104 v105 v106 v107 v108 v109 v110 v111 v112 v113 v114 v115 v116 v117 v118 v119 v120 v121 v122 v123 v124 v125 v126 v127 v128 v129 v130 v131 v132 v133 v134 v135 v136 v137 v138 v139 v140 v141 v142 v143 v144 v145 v146 v147 v148 v149 v150 v151 v152 v153 v154 v155 v156 v157 v158 v159 v160 v161 v162 v163 v164 v165 v166 v167 v168 v169 v170 v171 v172 v173 v174 v175 v176 v177 v178 v179 v180 v181 v182 v183 v184 v185 v186 v187 v188 v189 v190 v191 v192 v193 v194 v195 v196 v197 v198 v199 v200 v201 v202 v203 v204 v205 v206 v207 v208 v209 v210 v211 v212 v213 v214 v215 v216 v217 v218 v219 v220 v221 v222 v223 v224 v225 v226 v227 v228 v229 v230 v231 v232 v233 v234 v235 v236 v237 v238 v239 v240 v241 v242 v243 v244 v245 v246 v247 v248 v249 v250 v251 v252 v253 v254 v255 v256 v257 v258 v259 v260 v261 v262 v263 v264 v265 v266 v267 v268 v269 v270 v271 v272 v273 v274 v275 v276 v277 v278 v279 wr hFr
    have HG5 : Hid (Fr [] w wr) := HF1.out.then hFr
    clear hFr HM7 hG7
    go_wp2_with fail
    go_ret
    exact ⟨rfl, HG5.out⟩
end Go.Proofs.Ytgladhebgnngdaa
