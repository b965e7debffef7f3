/- LaneTrips' loop of acknowledgements. Conditions as it names them. -/
import Derived.Test.YtgladhebgnngdaaLf14
namespace Go.Proofs.Ytgladhebgnngdaa
open Go.ChangeShapes Go.WideShapes Go.ChangeAt Go.RowKit Go.Lib Go.Maps
set_option linter.unusedVariables false
set_option linter.unusedSimpArgs false
set_option maxHeartbeats 40000000 in
set_option maxRecDepth 1000000 in
theorem trips_l4 {u0 u2 u4 u6 u7 u9 u10 u11 u12 u13 u14 u15 u16 u17 u18 u19 u20 u21 u22 u23 u24 u25 u26 u27 u28 u29 u30 u31 u32 u33 u34 u35 u36 u37 u38 u39 u40 u41 u42 u43 u44 u45 u46 u47 u48 u49 u50 u51 u52 u53 u54 u55 u56 u57 u58 u59 u60 u61 u62 u63 u64 u65 u66 u67 u68 u69 u70 u71 u72 u73 u74 u75 u76 u77 u78 u79 u80 u81 u82 u83 u84 u85 u86 u87 u88 u89 u90 u91 u92 u93 u94 u95 u96 u97 u98 u99 u100 u101 u102 u103 u104 u105 u106 u107 u108 u109 u110 u111 u112 u113 u114 u115 u116 u117 u118 u119 u120 u121 u122 u123 u124 u125 u126 u127 u128 u129 u130 u131 u132 u133 u134 u135 u136 u137 u138 u139 u140 u141 u142 u143 u144 u145 u146 u147 u148 u149 u150 u151 u152 u153 u154 u155 u156 u157 u158 u159 u160 u161 u162 u163 u164 u165 u166 u167 u168 u169 u170 u171 u172 u173 u174 u175 u176 u177 u178 u179 u180 u181 u182 u183 u184 u185 u186 u187 u188 u189 u190 u191 u192 u193 u194 u195 u196 u197 u198 u199 u200 u201 u202 u203 u204 u205 u206 u207 u208 u209 u210 u211 u212 u213 u214 u215 u216 u217 u218 u219 u220 u221 u222 u223 u224 u225 u226 u227 u228 u229 u230 u231 u232 u233 u234 u235 u236 u237 u238 u239 u240 u241 u242 u243 u244 u245 u246 u247 u248 u249 u250 u251 u252 u253 u254 u255 u256 u257 u258 u259 u260 u261 u262 u263 u264 u265 u266 u267 u268 u269 u270 u271 u272 u273 u274 u275 u276 u277 u278 u279 : Value} {Q : Exit → Act → World → Prop} {w1 u w6 wr : World} {lb B0 Bn bc a0 O1 A1 : Nat} {bo : Option Addr} {bs : List Nat} {l s x q n : Int} {rest : List Wt} {S : List Nat}
    (HB5 : Hid (∀ W, Fr [] w1 W → W.cell? ⟨B0, 5, none⟩ = some (.slice bo Bn bc))) (HBs : Hid (∀ W, Fr [] w1 W → BArg W bo Bn bc bs)) (HStep : Hid (∀ W w', Fr [] w1 W → Fr [lb] u W → Fr (lb :: S) W w' → Fr [] w1 w' ∧ Fr [lb] u w')) (hBn : Bn ≤ 140737488351232) (hA1 : Bn ≤ A1) (hA2 : A1 ≤ 140737488400000) (ha : a0 ≤ A1) (hO1 : O1 ≤ 40) (HMc : Hid (LnM wr lb l l s x q (some ⟨n, rest, O1⟩) S)) (hGc : Fr [] w1 wr) (hUc : Fr [lb] u wr) (hsc : w6.heap.size ≤ wr.heap.size)
    (hexit : ∀ (v2 v192 v193 v194 v195 v196 v197 v198 v199 v200 v201 v202 v203 v204 v205 v206 v207 v208 v209 v210 v211 v212 v213 v214 v215 v216 : Value) (w9 : World) (a2 O2 : Nat), (O2 ≤ O1 ∧ a2 ≤ A1 ∧ LnM w9 lb l l s x q (some ⟨n, rest, O2⟩) S ∧ Fr [] w1 w9 ∧ Fr [lb] u w9 ∧ w6.heap.size ≤ w9.heap.size) → Q (.exit 6) ⟨List.toArray (u0 :: .pointer (some ⟨B0, 0, none⟩) :: v2 :: .pointer (some ⟨lb, 0, none⟩) :: u4 :: .int .i64 (a2 : Int) :: u6 :: u7 :: .int .i64 (O2 : Int) :: u9 :: u10 :: u11 :: u12 :: u13 :: u14 :: u15 :: u16 :: u17 :: u18 :: u19 :: u20 :: u21 :: u22 :: u23 :: u24 :: u25 :: u26 :: u27 :: u28 :: u29 :: u30 :: u31 :: u32 :: u33 :: u34 :: u35 :: u36 :: u37 :: u38 :: u39 :: u40 :: u41 :: u42 :: u43 :: u44 :: u45 :: u46 :: u47 :: u48 :: u49 :: u50 :: u51 :: u52 :: u53 :: u54 :: u55 :: u56 :: u57 :: u58 :: u59 :: u60 :: u61 :: u62 :: u63 :: u64 :: u65 :: u66 :: u67 :: u68 :: u69 :: u70 :: u71 :: u72 :: u73 :: u74 :: u75 :: u76 :: u77 :: u78 :: u79 :: u80 :: u81 :: u82 :: u83 :: u84 :: u85 :: u86 :: u87 :: u88 :: u89 :: u90 :: u91 :: u92 :: u93 :: u94 :: u95 :: u96 :: u97 :: u98 :: u99 :: u100 :: u101 :: u102 :: u103 :: u104 :: u105 :: u106 :: u107 :: u108 :: u109 :: u110 :: u111 :: u112 :: u113 :: u114 :: u115 :: u116 :: u117 :: u118 :: u119 :: u120 :: u121 :: u122 :: u123 :: u124 :: u125 :: u126 :: u127 :: u128 :: u129 :: u130 :: u131 :: u132 :: u133 :: u134 :: u135 :: u136 :: u137 :: u138 :: u139 :: u140 :: u141 :: u142 :: u143 :: u144 :: u145 :: u146 :: u147 :: u148 :: u149 :: u150 :: u151 :: u152 :: u153 :: u154 :: u155 :: u156 :: u157 :: u158 :: u159 :: u160 :: u161 :: u162 :: u163 :: u164 :: u165 :: u166 :: u167 :: u168 :: u169 :: u170 :: u171 :: u172 :: u173 :: u174 :: u175 :: u176 :: u177 :: u178 :: u179 :: u180 :: u181 :: u182 :: u183 :: u184 :: u185 :: u186 :: u187 :: u188 :: u189 :: u190 :: u191 :: v192 :: v193 :: v194 :: v195 :: v196 :: v197 :: v198 :: v199 :: v200 :: v201 :: v202 :: v203 :: v204 :: v205 :: v206 :: v207 :: v208 :: v209 :: v210 :: v211 :: v212 :: v213 :: v214 :: v215 :: v216 :: u217 :: u218 :: u219 :: u220 :: u221 :: u222 :: u223 :: u224 :: u225 :: u226 :: u227 :: u228 :: u229 :: u230 :: u231 :: u232 :: u233 :: u234 :: u235 :: u236 :: u237 :: u238 :: u239 :: u240 :: u241 :: u242 :: u243 :: u244 :: u245 :: u246 :: u247 :: u248 :: u249 :: u250 :: u251 :: u252 :: u253 :: u254 :: u255 :: u256 :: u257 :: u258 :: u259 :: u260 :: u261 :: u262 :: u263 :: u264 :: u265 :: u266 :: u267 :: u268 :: u269 :: u270 :: u271 :: u272 :: u273 :: u274 :: u275 :: u276 :: u277 :: u278 :: u279 :: []), []⟩ w9) :
    Code.wp Try.prog codeL4 Q ⟨List.toArray (u0 :: .pointer (some ⟨B0, 0, none⟩) :: u2 :: .pointer (some ⟨lb, 0, none⟩) :: u4 :: .int .i64 (a0 : Int) :: u6 :: u7 :: .int .i64 (O1 : Int) :: u9 :: u10 :: u11 :: u12 :: u13 :: u14 :: u15 :: u16 :: u17 :: u18 :: u19 :: u20 :: u21 :: u22 :: u23 :: u24 :: u25 :: u26 :: u27 :: u28 :: u29 :: u30 :: u31 :: u32 :: u33 :: u34 :: u35 :: u36 :: u37 :: u38 :: u39 :: u40 :: u41 :: u42 :: u43 :: u44 :: u45 :: u46 :: u47 :: u48 :: u49 :: u50 :: u51 :: u52 :: u53 :: u54 :: u55 :: u56 :: u57 :: u58 :: u59 :: u60 :: u61 :: u62 :: u63 :: u64 :: u65 :: u66 :: u67 :: u68 :: u69 :: u70 :: u71 :: u72 :: u73 :: u74 :: u75 :: u76 :: u77 :: u78 :: u79 :: u80 :: u81 :: u82 :: u83 :: u84 :: u85 :: u86 :: u87 :: u88 :: u89 :: u90 :: u91 :: u92 :: u93 :: u94 :: u95 :: u96 :: u97 :: u98 :: u99 :: u100 :: u101 :: u102 :: u103 :: u104 :: u105 :: u106 :: u107 :: u108 :: u109 :: u110 :: u111 :: u112 :: u113 :: u114 :: u115 :: u116 :: u117 :: u118 :: u119 :: u120 :: u121 :: u122 :: u123 :: u124 :: u125 :: u126 :: u127 :: u128 :: u129 :: u130 :: u131 :: u132 :: u133 :: u134 :: u135 :: u136 :: u137 :: u138 :: u139 :: u140 :: u141 :: u142 :: u143 :: u144 :: u145 :: u146 :: u147 :: u148 :: u149 :: u150 :: u151 :: u152 :: u153 :: u154 :: u155 :: u156 :: u157 :: u158 :: u159 :: u160 :: u161 :: u162 :: u163 :: u164 :: u165 :: u166 :: u167 :: u168 :: u169 :: u170 :: u171 :: u172 :: u173 :: u174 :: u175 :: u176 :: u177 :: u178 :: u179 :: u180 :: u181 :: u182 :: u183 :: u184 :: u185 :: u186 :: u187 :: u188 :: u189 :: u190 :: u191 :: u192 :: u193 :: u194 :: u195 :: u196 :: u197 :: u198 :: u199 :: u200 :: u201 :: u202 :: u203 :: u204 :: u205 :: u206 :: u207 :: u208 :: u209 :: u210 :: u211 :: u212 :: u213 :: u214 :: u215 :: u216 :: u217 :: u218 :: u219 :: u220 :: u221 :: u222 :: u223 :: u224 :: u225 :: u226 :: u227 :: u228 :: u229 :: u230 :: u231 :: u232 :: u233 :: u234 :: u235 :: u236 :: u237 :: u238 :: u239 :: u240 :: u241 :: u242 :: u243 :: u244 :: u245 :: u246 :: u247 :: u248 :: u249 :: u250 :: u251 :: u252 :: u253 :: u254 :: u255 :: u256 :: u257 :: u258 :: u259 :: u260 :: u261 :: u262 :: u263 :: u264 :: u265 :: u266 :: u267 :: u268 :: u269 :: u270 :: u271 :: u272 :: u273 :: u274 :: u275 :: u276 :: u277 :: u278 :: u279 :: []), []⟩ wr := by
  have HEx : Hid (∀ (v2 v192 v193 v194 v195 v196 v197 v198 v199 v200 v201 v202 v203 v204 v205 v206 v207 v208 v209 v210 v211 v212 v213 v214 v215 v216 : Value) (w9 : World) (a2 O2 : Nat), (O2 ≤ O1 ∧ a2 ≤ A1 ∧ LnM w9 lb l l s x q (some ⟨n, rest, O2⟩) S ∧ Fr [] w1 w9 ∧ Fr [lb] u w9 ∧ w6.heap.size ≤ w9.heap.size) → Q (.exit 6) ⟨List.toArray (u0 :: .pointer (some ⟨B0, 0, none⟩) :: v2 :: .pointer (some ⟨lb, 0, none⟩) :: u4 :: .int .i64 (a2 : Int) :: u6 :: u7 :: .int .i64 (O2 : Int) :: u9 :: u10 :: u11 :: u12 :: u13 :: u14 :: u15 :: u16 :: u17 :: u18 :: u19 :: u20 :: u21 :: u22 :: u23 :: u24 :: u25 :: u26 :: u27 :: u28 :: u29 :: u30 :: u31 :: u32 :: u33 :: u34 :: u35 :: u36 :: u37 :: u38 :: u39 :: u40 :: u41 :: u42 :: u43 :: u44 :: u45 :: u46 :: u47 :: u48 :: u49 :: u50 :: u51 :: u52 :: u53 :: u54 :: u55 :: u56 :: u57 :: u58 :: u59 :: u60 :: u61 :: u62 :: u63 :: u64 :: u65 :: u66 :: u67 :: u68 :: u69 :: u70 :: u71 :: u72 :: u73 :: u74 :: u75 :: u76 :: u77 :: u78 :: u79 :: u80 :: u81 :: u82 :: u83 :: u84 :: u85 :: u86 :: u87 :: u88 :: u89 :: u90 :: u91 :: u92 :: u93 :: u94 :: u95 :: u96 :: u97 :: u98 :: u99 :: u100 :: u101 :: u102 :: u103 :: u104 :: u105 :: u106 :: u107 :: u108 :: u109 :: u110 :: u111 :: u112 :: u113 :: u114 :: u115 :: u116 :: u117 :: u118 :: u119 :: u120 :: u121 :: u122 :: u123 :: u124 :: u125 :: u126 :: u127 :: u128 :: u129 :: u130 :: u131 :: u132 :: u133 :: u134 :: u135 :: u136 :: u137 :: u138 :: u139 :: u140 :: u141 :: u142 :: u143 :: u144 :: u145 :: u146 :: u147 :: u148 :: u149 :: u150 :: u151 :: u152 :: u153 :: u154 :: u155 :: u156 :: u157 :: u158 :: u159 :: u160 :: u161 :: u162 :: u163 :: u164 :: u165 :: u166 :: u167 :: u168 :: u169 :: u170 :: u171 :: u172 :: u173 :: u174 :: u175 :: u176 :: u177 :: u178 :: u179 :: u180 :: u181 :: u182 :: u183 :: u184 :: u185 :: u186 :: u187 :: u188 :: u189 :: u190 :: u191 :: v192 :: v193 :: v194 :: v195 :: v196 :: v197 :: v198 :: v199 :: v200 :: v201 :: v202 :: v203 :: v204 :: v205 :: v206 :: v207 :: v208 :: v209 :: v210 :: v211 :: v212 :: v213 :: v214 :: v215 :: v216 :: u217 :: u218 :: u219 :: u220 :: u221 :: u222 :: u223 :: u224 :: u225 :: u226 :: u227 :: u228 :: u229 :: u230 :: u231 :: u232 :: u233 :: u234 :: u235 :: u236 :: u237 :: u238 :: u239 :: u240 :: u241 :: u242 :: u243 :: u244 :: u245 :: u246 :: u247 :: u248 :: u249 :: u250 :: u251 :: u252 :: u253 :: u254 :: u255 :: u256 :: u257 :: u258 :: u259 :: u260 :: u261 :: u262 :: u263 :: u264 :: u265 :: u266 :: u267 :: u268 :: u269 :: u270 :: u271 :: u272 :: u273 :: u274 :: u275 :: u276 :: u277 :: u278 :: u279 :: []), []⟩ w9) := hexit
  clear hexit
  conv => arg 2; whnf
  go_loopw [5, 8] (fun tt oo wr => ∃ (a O2 : Nat), tt = .int .i64 a ∧ oo = .int .i64 O2 ∧ O2 ≤ O1 ∧ a ≤ A1 ∧ Hid (LnM wr lb l l s x q (some ⟨n, rest, O2⟩) S) ∧ Fr [] w1 wr ∧ Fr [lb] u wr ∧ w6.heap.size ≤ wr.heap.size) (fun _ oo _ => (intOf oo).toNat)
  case atStart => exact ⟨a0, O1, rfl, rfl, Nat.le_refl _, ha, HMc, hGc, hUc, hsc⟩
  case round =>
    clear HMc hGc hUc hsc
    obtain ⟨a3, O2, rfl, rfl, hO2, ha3, HM4, hG4, hU4, hs4⟩ := hrel
    have c5 := HB5.out _ hG4
    by_cases h3 : a3 < Bn
    · have h3' : (a3 : Int) < (Bn : Int) := by omega
      have hBa := HBs.out _ hG4
      obtain ⟨bb2, boff, hbo, _, hbc⟩ := hBa.lies (by omega)
      subst hbo
      have hcell := hbc a3 h3
      have hlow := hBa.low (bs.getD a3 0) (by have := hBa.len; simp [List.getD, show a3 < bs.length by omega])
      obtain ⟨av, hav⟩ : ∃ av, av = bs.getD a3 0 := ⟨_, rfl⟩
      rw [← hav] at hcell hlow
      obtain ⟨rm, hrm⟩ : ∃ rm : Int, rm = (av : Int) % 3 := ⟨_, rfl⟩
      have hrem : (av : Int).tmod 3 = rm := by rw [hrm]; exact Int.tmod_eq_emod_of_nonneg (by omega)
      clear hav hrm hbc hBa
      by_cases hr0 : rm = 0
      · subst hr0
        cases O2 with
        | zero =>
          go_wp2_with fail
          exact HEx.out _ _ _ _ _ _ _ _ _ _ _ _ _ _ _ _ _ _ _ _ _ _ _ _ _ _ _ a3 0 ⟨hO2, ha3, HM4.out, hG4, hU4, hs4⟩
        | succ O2 =>
          have hO0 : (0 : Int) < ((O2 + 1 : Nat) : Int) := by omega
          have HAk : Hid (Calls _ _ _ _ _) := lacked_any HM4.out
          simp only [ackE, ackS] at HAk
          go_wp2_with fail
          refine Calls.mono HAk.out ?_
          rintro e w5 ⟨rfl, hM5, hF5⟩
          have HM5 : Hid (LnM w5 lb l l s x q (some ⟨n, rest, O2⟩) S) := hM5
          obtain ⟨hG5, hU5⟩ := HStep.out _ w5 hG4 hU4 hF5
          have hs5 : w6.heap.size ≤ w5.heap.size := Nat.le_trans hs4 hF5.size
          clear hM5 hF5 HM4 hG4 hU4 hs4 HAk c5 hcell
          go_wp2_with fail
          go_roundw
          case rel => exact ⟨a3 + 1, O2, by simp, by simp, by omega, by omega, HM5, hG5, hU5, hs5⟩
          case measure => first | (simp [intOf]; done) | (simp [intOf]; omega)
      · have hr0' : (rm == 0) = false := by simpa using hr0
        clear hr0
        go_wp2_with fail
        exact HEx.out _ _ _ _ _ _ _ _ _ _ _ _ _ _ _ _ _ _ _ _ _ _ _ _ _ _ _ a3 O2 ⟨hO2, ha3, HM4.out, hG4, hU4, hs4⟩
    · have h3' : ¬ ((a3 : Int) < (Bn : Int)) := by omega
      go_wp2_with fail
      exact HEx.out _ _ _ _ _ _ _ _ _ _ _ _ _ _ _ _ _ _ _ _ _ _ _ _ _ _ _ a3 O2 ⟨hO2, ha3, HM4.out, hG4, hU4, hs4⟩
end Go.Proofs.Ytgladhebgnngdaa
