/-
  lex: the document's Scan.
-/
import Derived.Test.YtghddknhoiaboaaGate
import Derived.Test.YtghddknhoiaboaaLsD
namespace Go.Proofs.Ytghddknhoiaboaa
open Go.ChangeShapes Go.WideShapes Go.ChangeAt Go.RowKit
set_option linter.unusedVariables false
set_option maxRecDepth 100000

set_option maxHeartbeats 40000000 in
noncomputable def refScan_any_split (s : ByteArray) (hs : s.size ≤ 65000) (w : World) : (g_A : Prop) ×' (g_K : Prop) ×' (g_F : Prop) ×' (g_C : Prop) ×' (g_STR : Prop) ×' (g_WORD : Prop) ×' (g_FIN : Prop) ×' (Gate g_A → Gate g_K → Gate g_F → Gate g_C → Gate g_STR → Gate g_WORD → Gate g_FIN →
    Calls Try.prog 11 #[.string s] w (RScanP w s)) := ⟨_, _, _, _, _, _, _, fun hG_A hG_K hG_F hG_C hG_STR hG_WORD hG_FIN => by
  have h1 : ¬ (65536 : Int) < (s.size : Int) := by omega
  obtain ⟨i0, hi0, hz0, hz1, hz2⟩ := info_parts infoPos
  have hmk : ∀ u : World, (Instr.makeSlice 57 (.int .i64 ((s.size : Int) + 1)) (.int .i64 ((s.size : Int) + 1))).run Try.prog u =
      .ok (.slice (some ⟨u.heap.size, 0, none⟩) (s.size + 1) (s.size + 1)) (u.alloc (.cells (plc (bytesOf s) (s.size + 1) 0).toArray 25)) := fun u => by
    have h := run_make (P := Try.prog) u 57 25 i0 _ Try.underlying57 hi0 hz0 .i64 .i64 ((s.size : Int) + 1) ((s.size : Int) + 1) (by omega) (by omega) (by rw [hz2]; omega) (by omega)
    have e : ((s.size : Int) + 1).toNat = s.size + 1 := by omega
    rw [e] at h
    rw [← plc_made]
    simpa [hz1, Value.cells] using h
  have hmk1 := hmk (w.alloc (.cells #[.int .i64 0, .int .i64 0] 25))
  obtain ⟨W1, hW1⟩ : ∃ W1, W1 = (w.alloc (.cells #[.int .i64 0, .int .i64 0] 25)).alloc (.cells (plc (bytesOf s) (s.size + 1) 0).toArray 25) := ⟨_, rfl⟩
  rw [← hW1] at hmk1
  obtain ⟨W2, hW2⟩ : ∃ W2, W2 = W1.alloc (.cells #[.int .i64 1, .int .i64 1] 25) := ⟨_, rfl⟩
  have HL0 : Hid (LW w W2 s 0 ∧ W1.heap.size = w.heap.size + 1 + 1) := Lib.hid (by
    have e1 := size_alloc' w (.cells #[.int .i64 0, .int .i64 0] 25)
    have q1 := heap_alloc w (.cells #[.int .i64 0, .int .i64 0] 25)
    have q2 := heap_alloc (w.alloc (.cells #[.int .i64 0, .int .i64 0] 25)) (.cells (plc (bytesOf s) (s.size + 1) 0).toArray 25)
    have e2 := size_alloc' (w.alloc (.cells #[.int .i64 0, .int .i64 0] 25)) (.cells (plc (bytesOf s) (s.size + 1) 0).toArray 25)
    have bA : Below w.heap.size w (w.alloc (.cells #[.int .i64 0, .int .i64 0] 25)) := (Below.refl _ _).alloc (Nat.le_refl _) _
    generalize hA : w.alloc (.cells #[.int .i64 0, .int .i64 0] 25) = WA at *
    have bB : Below WA.heap.size WA W1 := by rw [hW1]; exact (Below.refl _ _).alloc (Nat.le_refl _) _
    have bC : Below W1.heap.size W1 W2 := by rw [hW2]; exact (Below.refl _ _).alloc (Nat.le_refl _) _
    have q3 := heap_alloc W1 (.cells #[.int .i64 1, .int .i64 1] 25)
    have e3 := size_alloc' W1 (.cells #[.int .i64 1, .int .i64 1] 25)
    rw [← hW2] at q3 e3
    rw [← hW1] at q2 e2
    rw [e1] at q2 e2
    rw [e2] at q3 e3
    refine ⟨⟨bA.trans ((bB.mono (by omega)).trans (bC.mono (by omega))), ?_, ?_, q3, by omega⟩, e2⟩
    · rw [bC.block _ (by omega), bB.block _ (by omega)]; exact q1
    · rw [bC.block _ (by omega)]; exact q2)
  have HW2 := Lib.hid hW2
  have HE := Lib.hid HL0.out.2
  have hE := HE.out
  clear hW1 hW2 hmk hi0 hz0 hz1 hz2
  have h6 : 25 = 25 := rfl
  go_enter Try.func11, Try.ntmps11
  go_wp2_with fail
  rw [← HW2.out]
  go_loopw [7] (fun vi wr => ∃ i : Nat, i ≤ s.size ∧ vi = .int .i64 i ∧ Hid (LW w wr s i)) (fun vi _ => s.size - (intOf vi).toNat)
  case atStart => exact ⟨0, Nat.zero_le _, rfl, Lib.hid HL0.out.1⟩
  case round =>
    obtain ⟨i, hi, rfl, HL⟩ := hrel
    by_cases hlt : i < s.size
    · have i1 : (i : Int) < (s.size : Int) := by omega
      obtain ⟨c0, c1, z0, z1, d0, d1, y0, y1⟩ := HL.out.cells hi
      have hix := idx_str s i hlt (by omega)
      have hp := posAt_le (bytesOf s) i
      have HPl := Lib.hid (fun hc => HL.out.plain hlt hc)
      have HLn := Lib.hid (fun hc x => HL.out.line hlt hc x)
      generalize (bytesOf s).getD i 0 = c at *
      generalize posAt (bytesOf s) i = P at *
      by_cases h10 : c = 10
      · have hb : ((c : Int) == 10) = true := by rw [h10]; rfl
        have HF := Lib.hid (fun x => HLn.out h10 x)
        clear HPl HLn h10
        go_wp2_with fail
        go_roundw
        case rel => exact ⟨i + 1, by omega, by go_num, Lib.hid (HF.out _)⟩
        case measure => simp [intOf]; omega
      · have hb : ((c : Int) == 10) = false := by
          have : ¬ (c : Int) = 10 := by omega
          simpa using this
        have HF := Lib.hid (HPl.out h10)
        clear HPl HLn h10
        go_wp2_with fail
        go_roundw
        case rel => exact ⟨i + 1, by omega, by go_num, Lib.hid HF.out⟩
        case measure => simp [intOf]; omega
    · obtain rfl : i = s.size := by omega
      have HR0 : Hid (RW w wr s (.slice none 0 0) []) := Lib.hid ⟨HL.out.below, HL.out.res, HL.out.pl, HL.out.size, toksR_none _ _⟩
      clear HL
      go_wp2_with fail
      go_loopw [8, 9] (fun vo vi wq => ∃ (i : Nat) (L : List Tok), i ≤ s.size ∧ L.length ≤ i ∧ vi = .int .i64 i ∧ Hid (ScanAt s L i) ∧ Hid (RW w wq s vo L)) (fun _ vi _ => s.size - (intOf vi).toNat)
      case atStart => exact ⟨0, [], Nat.zero_le _, Nat.zero_le _, rfl, Lib.hid (ScanAt.start s), HR0⟩
      case round =>
        obtain ⟨i, L, hi, hLi, rfl, HSc, HR⟩ := hrel
        obtain ⟨va, vc, rfl⟩ := own_slice HR.out.row
        by_cases hlt : i < s.size
        · have i1 : (i : Int) < (s.size : Int) := by omega
          have HIX := Lib.hid (idx_str s i hlt (by omega))
          obtain ⟨g0, g1⟩ := HR.out.place i hlt
          have HDr := Lib.hid (drop_at (bytesOf s) i (by rw [bytesOf_length]; exact hlt))
          obtain ⟨P, hP⟩ : ∃ P, P = posAt (bytesOf s) i := ⟨_, rfl⟩
          have HP := Lib.hid hP
          have hix := HIX.out
          have h256 := byte_lt s i
          generalize hcd : (bytesOf s).getD i 0 = c at *
          rw [← hP] at g0 g1
          have HC := Lib.hid hcd
          clear hP hcd
          go_upto_region 15 with fail
          go_cut [10, 11] from 51 to 257 (fun v10 v11 wx => ∃ ab, v10 = .int .u8 (c : Int) ∧ v11 = .pointer (some ⟨ab, 0, none⟩) ∧ Hid (wx.heap[ab]? = some (.cells #[.int .i64 (P.1 : Int), .int .i64 (P.2 : Int)] 25)) ∧ Hid (w.heap.size + 3 ≤ ab) ∧ Hid (RW w wx s (.slice va L.length vc) L))
          case first =>
            have i2 : (i : Int) < (s.size : Int) + 1 := by omega
            have HC15 : Hid (∀ W, Gl wr.drew W → W.cell? ⟨w.heap.size + 1, i * 2, none⟩ = some (.int .i64 (P.1 : Int)) ∧ W.cell? ⟨w.heap.size + 1, i * 2 + 1, none⟩ = some (.int .i64 (P.2 : Int))) := Lib.hid (fun W hW => by
              have hb := hW.undrew.block _ (lt_of_cell g0)
              exact ⟨(World.cell?_of_block (a := ⟨w.heap.size + 1, i * 2, none⟩) hb).trans g0, (World.cell?_of_block (a := ⟨w.heap.size + 1, i * 2 + 1, none⟩) hb).trans g1⟩)
            clear g0 g1
            refine wp_region_tail_lit [.is (.string s), .is (.int .i64 (i : Int)), .is (.int .u8 (c : Int)), .is (.slice (some ⟨w.heap.size + 1, 0, none⟩) (s.size + 1) (s.size + 1)), .is (.int .i64 (i : Int)), .is (.pointer (some ⟨w.heap.size + 1, i * 2, none⟩)), .is (.agg #[.int .i64 (P.1 : Int), .int .i64 (P.2 : Int)]), .has (NewPos wr.heap.size), .is (.int .u8 (c : Int))] (by kernel_rfl) (by kernel_rfl) (by kernel_rfl) (by kernel_rfl) ?_
            iterate 7 (refine wpInvT_is ?_ ?_; (focus (intro W hW hF K hK; clear hF; obtain ⟨d0, d1⟩ := HC15.out W hW; go_simp; exact hK _ _ (Gl.refl _) rfl)); simp only [Act.put, List.setIfInBounds_toArray, List.set_cons_zero, List.set_cons_succ])
            refine wpInvT_has _ (newPos_stable _) ?_ ?_
            · intro W hW hF K hK
              clear hF
              go_simp
              exact hK _ _ (Gl.alloc W _) ⟨W.heap.size, rfl, heap_alloc _ _, hW.undrew.size⟩
            intro v11
            simp only [Act.put, List.setIfInBounds_toArray, List.set_cons_zero, List.set_cons_succ]
            refine wpInvT_is ?_ ?_
            · (intro W hW hF K hK; clear hF; go_simp; exact hK _ _ (Gl.refl _) rfl)
            simp only [Act.put, List.setIfInBounds_toArray, List.set_cons_zero, List.set_cons_succ]
            refine wpInvT_tail ?_
            intro W hW hF
            obtain ⟨g, rfl, hg, hgB⟩ := hF _ (List.mem_cons_self ..)
            clear hF
            have x0 := cell_of_row W g 0 _ _ (0, 0) hg
            have x1 := cell_of_row W g 1 _ _ (0, 0) hg
            have f0 := frozen_of_row W g 0 _ _ hg
            have f1 := frozen_of_row W g 1 _ _ hg
            have HG2 : Hid (((W.setCell ⟨g, 0, none⟩ (.int .i64 (P.1 : Int))).setCell ⟨g, 1, none⟩ (.int .i64 (P.2 : Int))).heap[g]? = some (.cells #[.int .i64 (P.1 : Int), .int .i64 (P.2 : Int)] 25)) := Lib.hid (by
              rw [set_put _ _ _ _ (set_put _ _ _ _ hg)]; rfl)
            have HR2 : Hid (RW w ((W.setCell ⟨g, 0, none⟩ (.int .i64 (P.1 : Int))).setCell ⟨g, 1, none⟩ (.int .i64 (P.2 : Int))) s (.slice va L.length vc) L) := Lib.hid (HR.out.step ((hW.undrew.setCell (p := ⟨g, 0, none⟩) hgB _).setCell (p := ⟨g, 1, none⟩) hgB _))
            have HGB : Hid (w.heap.size + 3 ≤ g) := Lib.hid (Nat.le_trans HR.out.size hgB)
            clear hW hg hgB
            simp only [TailL]
            go_simp
            go_wp2_with fail
            go_meet
            exact ⟨g, rfl, rfl, HG2, HGB, HR2⟩
          case rest =>
            obtain ⟨ab, rfl, rfl, HA, HAb, HR1⟩ := hcut
            have hba := HAb.out
            have HBl := Lib.hid (blank_any c h256 wc)
            by_cases hbl : isBl c = true
            · rename_i q_1 q_2 q_3 q_4 q_5 q_6 q_7 q_8 q_9 q_10 q_11 q_12 q_13 q_14 q_15 q_16 q_17 q_18 q_19 q_20 q_21 q_22 q_23 q_24 q_25 q_26 q_27 q_28 q_29 q_30 q_31 q_32 q_33 q_34 q_35 q_36 q_37 q_38 q_39 q_40 q_41 q_42 q_43 q_44 q_45 q_46 q_47 q_48 q_49 q_50 q_51 q_52 q_53 q_54 q_55 q_56 q_57 q_58 q_59 q_60 q_61 q_62 q_63 q_64 q_65 q_66 q_67 q_68 q_69 q_70 q_71 q_72 q_73 q_74 q_75 q_76 q_77 q_78 q_79 q_80 q_81 q_82 q_83 q_84 q_85 q_86 q_87 q_88 q_89 q_90 q_91 q_92 q_93 q_94 q_95 q_96 q_97 q_98 q_99 q_100 q_101 q_102 q_103 q_104 q_105 q_106 q_107 q_108 q_109 q_110 q_111 q_112 q_113 q_114 q_115 q_116 q_117 q_118 q_119 q_120 q_121 q_122 q_123 q_124 q_125 q_126 q_127 q_128 q_129 q_130 q_131 q_132 q_133 q_134 q_135 q_136 q_137 q_138 q_139 q_140 q_141 q_142 q_143 q_144 q_145 q_146 q_147 q_148 q_149 q_150 q_151 q_152 q_153 q_154 q_155 q_156 q_157 q_158 q_159 q_160 q_161 q_162 q_163 q_164 q_165 q_166 q_167 q_168 q_169 q_170 q_171 q_172 q_173 q_174 q_175 q_176 q_177 q_178 q_179 q_180 q_181 q_182 q_183 q_184 q_185 q_186 q_187 q_188 q_189 q_190 q_191 q_192 q_193 q_194 q_195 q_196 q_197 q_198 q_199 q_200 q_201 q_202 q_203 q_204 q_205 q_206 q_207 q_208 q_209 q_210 q_211 q_212 q_213 q_214 q_215 q_216 q_217 q_218 q_219
              revert i0 W1 hmk1 W2 HL0 HW2 HE hE q_1 h1 h6 q_2 u29 u30 u31 u32 u33 u34 u35 u36 u37 u38 u39 u40 u41 u42 u43 u44 u45 u46 u47 u48 u49 u50 q_3 q_4 HR0 q_5 q_6 q_7 q_8 q_9 wr u2 u4 u10 u11 u12 u13 u14 u15 u16 u17 u18 u19 q_10 q_11 q_12 q_13 q_14 q_15 q_16 q_17 q_18 q_19 q_20 q_21 q_22 q_23 q_24 q_25 q_26 q_27 q_28 q_29 q_30 q_31 q_32 q_33 q_34 q_35 q_36 q_37 q_38 q_39 q_40 q_41 q_42 q_43 q_44 q_45 q_46 q_47 q_48 q_49 q_50 q_51 q_52 q_53 q_54 q_55 q_56 q_57 q_58 q_59 q_60 q_61 q_62 q_63 q_64 q_65 q_66 q_67 q_68 q_69 q_70 q_71 q_72 q_73 q_74 q_75 q_76 q_77 q_78 q_79 q_80 q_81 q_82 q_83 q_84 q_85 q_86 q_87 q_88 q_89 q_90 q_91 q_92 q_93 q_94 q_95 q_96 q_97 q_98 q_99 q_100 q_101 q_102 q_103 q_104 q_105 q_106 q_107 q_108 q_109 q_110 q_111 q_112 q_113 q_114 q_115 q_116 q_117 q_118 q_119 q_120 q_121 q_122 q_123 q_124 q_125 q_126 q_127 q_128 q_129 q_130 q_131 q_132 q_133 q_134 q_135 q_136 q_137 q_138 q_139 q_140 q_141 q_142 q_143 q_144 q_145 q_146 q_147 q_148 q_149 q_150 q_151 q_152 q_153 q_154 q_155 q_156 q_157 q_158 q_159 q_160 q_161 q_162 q_163 q_164 q_165 q_166 q_167 q_168 q_169 q_170 q_171 q_172 q_173 q_174 q_175 q_176 q_177 q_178 q_179 q_180 q_181 q_182 q_183 q_184 q_185 q_186 q_187 q_188 q_189 q_190 q_191 q_192 q_193 q_194 q_195 q_196 q_197 q_198 q_199 q_200 q_201 q_202 q_203 q_204 q_205 q_206 q_207 q_208 q_209 q_210 q_211 q_212 q_213 q_214 q_215 q_216 i L hi hLi HSc va vc HR hlt i1 P g1 g0 HP c HIX HDr hix h256 HC q_217 q_218 q_219 wc u51 u52 u53 u54 u55 u56 u57 u58 u59 u60 u61 u62 u63 u64 u65 u66 u67 u68 u69 u70 u71 u72 u73 u74 u75 u76 u77 u78 u79 u80 u81 u82 u83 u84 u85 u86 u87 u88 u89 u90 u91 u92 u93 u94 u95 u96 u97 u98 u99 u100 u101 u102 u103 u104 u105 u106 u107 u108 u109 u110 u111 u112 u113 u114 u115 u116 u117 u118 u119 u120 u121 u122 u123 u124 u125 u126 u127 u128 u129 u130 u131 u132 u133 u134 u135 u136 u137 u138 u139 u140 u141 u142 u143 u144 u145 u146 u147 u148 u149 u150 u151 u152 u153 u154 u155 u156 u157 u158 u159 u160 u161 u162 u163 u164 u165 u166 u167 u168 u169 u170 u171 u172 u173 u174 u175 u176 u177 u178 u179 u180 u181 u182 u183 u184 u185 u186 u187 u188 u189 u190 u191 u192 u193 u194 u195 u196 u197 u198 u199 u200 u201 u202 u203 u204 u205 u206 u207 u208 u209 u210 u211 u212 u213 u214 u215 u216 u217 u218 u219 u220 u221 u222 u223 u224 u225 u226 u227 u228 u229 u230 u231 u232 u233 u234 u235 u236 u237 u238 u239 u240 u241 u242 u243 u244 u245 u246 u247 u248 u249 u250 u251 u252 u253 u254 u255 u256 u257 ab HA HAb HR1 hba HBl hbl
              exact hG_A.out
            · have hblf : isBl c = false := by simpa using hbl
              rw [hblf] at HBl
              clear hbl
              by_cases h59 : c = 59
              · rename_i q_1 q_2 q_3 q_4 q_5 q_6 q_7 q_8 q_9 q_10 q_11 q_12 q_13 q_14 q_15 q_16 q_17 q_18 q_19 q_20 q_21 q_22 q_23 q_24 q_25 q_26 q_27 q_28 q_29 q_30 q_31 q_32 q_33 q_34 q_35 q_36 q_37 q_38 q_39 q_40 q_41 q_42 q_43 q_44 q_45 q_46 q_47 q_48 q_49 q_50 q_51 q_52 q_53 q_54 q_55 q_56 q_57 q_58 q_59 q_60 q_61 q_62 q_63 q_64 q_65 q_66 q_67 q_68 q_69 q_70 q_71 q_72 q_73 q_74 q_75 q_76 q_77 q_78 q_79 q_80 q_81 q_82 q_83 q_84 q_85 q_86 q_87 q_88 q_89 q_90 q_91 q_92 q_93 q_94 q_95 q_96 q_97 q_98 q_99 q_100 q_101 q_102 q_103 q_104 q_105 q_106 q_107 q_108 q_109 q_110 q_111 q_112 q_113 q_114 q_115 q_116 q_117 q_118 q_119 q_120 q_121 q_122 q_123 q_124 q_125 q_126 q_127 q_128 q_129 q_130 q_131 q_132 q_133 q_134 q_135 q_136 q_137 q_138 q_139 q_140 q_141 q_142 q_143 q_144 q_145 q_146 q_147 q_148 q_149 q_150 q_151 q_152 q_153 q_154 q_155 q_156 q_157 q_158 q_159 q_160 q_161 q_162 q_163 q_164 q_165 q_166 q_167 q_168 q_169 q_170 q_171 q_172 q_173 q_174 q_175 q_176 q_177 q_178 q_179 q_180 q_181 q_182 q_183 q_184 q_185 q_186 q_187 q_188 q_189 q_190 q_191 q_192 q_193 q_194 q_195 q_196 q_197 q_198 q_199 q_200 q_201 q_202 q_203 q_204 q_205 q_206 q_207 q_208 q_209 q_210 q_211 q_212 q_213 q_214 q_215 q_216 q_217 q_218 q_219
                revert i0 W1 hmk1 W2 HL0 HW2 HE hE q_1 h1 h6 q_2 u29 u30 u31 u32 u33 u34 u35 u36 u37 u38 u39 u40 u41 u42 u43 u44 u45 u46 u47 u48 u49 u50 q_3 q_4 HR0 q_5 q_6 q_7 q_8 q_9 wr u2 u4 u10 u11 u12 u13 u14 u15 u16 u17 u18 u19 q_10 q_11 q_12 q_13 q_14 q_15 q_16 q_17 q_18 q_19 q_20 q_21 q_22 q_23 q_24 q_25 q_26 q_27 q_28 q_29 q_30 q_31 q_32 q_33 q_34 q_35 q_36 q_37 q_38 q_39 q_40 q_41 q_42 q_43 q_44 q_45 q_46 q_47 q_48 q_49 q_50 q_51 q_52 q_53 q_54 q_55 q_56 q_57 q_58 q_59 q_60 q_61 q_62 q_63 q_64 q_65 q_66 q_67 q_68 q_69 q_70 q_71 q_72 q_73 q_74 q_75 q_76 q_77 q_78 q_79 q_80 q_81 q_82 q_83 q_84 q_85 q_86 q_87 q_88 q_89 q_90 q_91 q_92 q_93 q_94 q_95 q_96 q_97 q_98 q_99 q_100 q_101 q_102 q_103 q_104 q_105 q_106 q_107 q_108 q_109 q_110 q_111 q_112 q_113 q_114 q_115 q_116 q_117 q_118 q_119 q_120 q_121 q_122 q_123 q_124 q_125 q_126 q_127 q_128 q_129 q_130 q_131 q_132 q_133 q_134 q_135 q_136 q_137 q_138 q_139 q_140 q_141 q_142 q_143 q_144 q_145 q_146 q_147 q_148 q_149 q_150 q_151 q_152 q_153 q_154 q_155 q_156 q_157 q_158 q_159 q_160 q_161 q_162 q_163 q_164 q_165 q_166 q_167 q_168 q_169 q_170 q_171 q_172 q_173 q_174 q_175 q_176 q_177 q_178 q_179 q_180 q_181 q_182 q_183 q_184 q_185 q_186 q_187 q_188 q_189 q_190 q_191 q_192 q_193 q_194 q_195 q_196 q_197 q_198 q_199 q_200 q_201 q_202 q_203 q_204 q_205 q_206 q_207 q_208 q_209 q_210 q_211 q_212 q_213 q_214 q_215 q_216 i L hi hLi HSc va vc HR hlt i1 P g1 g0 HP c HIX HDr hix h256 HC q_217 q_218 q_219 wc u51 u52 u53 u54 u55 u56 u57 u58 u59 u60 u61 u62 u63 u64 u65 u66 u67 u68 u69 u70 u71 u72 u73 u74 u75 u76 u77 u78 u79 u80 u81 u82 u83 u84 u85 u86 u87 u88 u89 u90 u91 u92 u93 u94 u95 u96 u97 u98 u99 u100 u101 u102 u103 u104 u105 u106 u107 u108 u109 u110 u111 u112 u113 u114 u115 u116 u117 u118 u119 u120 u121 u122 u123 u124 u125 u126 u127 u128 u129 u130 u131 u132 u133 u134 u135 u136 u137 u138 u139 u140 u141 u142 u143 u144 u145 u146 u147 u148 u149 u150 u151 u152 u153 u154 u155 u156 u157 u158 u159 u160 u161 u162 u163 u164 u165 u166 u167 u168 u169 u170 u171 u172 u173 u174 u175 u176 u177 u178 u179 u180 u181 u182 u183 u184 u185 u186 u187 u188 u189 u190 u191 u192 u193 u194 u195 u196 u197 u198 u199 u200 u201 u202 u203 u204 u205 u206 u207 u208 u209 u210 u211 u212 u213 u214 u215 u216 u217 u218 u219 u220 u221 u222 u223 u224 u225 u226 u227 u228 u229 u230 u231 u232 u233 u234 u235 u236 u237 u238 u239 u240 u241 u242 u243 u244 u245 u246 u247 u248 u249 u250 u251 u252 u253 u254 u255 u256 u257 ab HA HAb HR1 hba HBl hblf h59
                exact hG_K.out
              · have b59 : ((c : Int) == 59) = false := by
                  have : ¬ (c : Int) = 59 := by omega
                  simpa using this
                have HBz := Lib.hid (blank_none s i hlt (by rw [HC.out]; exact hblf) (by rw [HC.out]; exact h59))
                by_cases h40 : c = 40
                · rename_i q_1 q_2 q_3 q_4 q_5 q_6 q_7 q_8 q_9 q_10 q_11 q_12 q_13 q_14 q_15 q_16 q_17 q_18 q_19 q_20 q_21 q_22 q_23 q_24 q_25 q_26 q_27 q_28 q_29 q_30 q_31 q_32 q_33 q_34 q_35 q_36 q_37 q_38 q_39 q_40 q_41 q_42 q_43 q_44 q_45 q_46 q_47 q_48 q_49 q_50 q_51 q_52 q_53 q_54 q_55 q_56 q_57 q_58 q_59 q_60 q_61 q_62 q_63 q_64 q_65 q_66 q_67 q_68 q_69 q_70 q_71 q_72 q_73 q_74 q_75 q_76 q_77 q_78 q_79 q_80 q_81 q_82 q_83 q_84 q_85 q_86 q_87 q_88 q_89 q_90 q_91 q_92 q_93 q_94 q_95 q_96 q_97 q_98 q_99 q_100 q_101 q_102 q_103 q_104 q_105 q_106 q_107 q_108 q_109 q_110 q_111 q_112 q_113 q_114 q_115 q_116 q_117 q_118 q_119 q_120 q_121 q_122 q_123 q_124 q_125 q_126 q_127 q_128 q_129 q_130 q_131 q_132 q_133 q_134 q_135 q_136 q_137 q_138 q_139 q_140 q_141 q_142 q_143 q_144 q_145 q_146 q_147 q_148 q_149 q_150 q_151 q_152 q_153 q_154 q_155 q_156 q_157 q_158 q_159 q_160 q_161 q_162 q_163 q_164 q_165 q_166 q_167 q_168 q_169 q_170 q_171 q_172 q_173 q_174 q_175 q_176 q_177 q_178 q_179 q_180 q_181 q_182 q_183 q_184 q_185 q_186 q_187 q_188 q_189 q_190 q_191 q_192 q_193 q_194 q_195 q_196 q_197 q_198 q_199 q_200 q_201 q_202 q_203 q_204 q_205 q_206 q_207 q_208 q_209 q_210 q_211 q_212 q_213 q_214 q_215 q_216 q_217 q_218 q_219
                  revert i0 W1 hmk1 W2 HL0 HW2 HE hE q_1 h1 h6 q_2 u29 u30 u31 u32 u33 u34 u35 u36 u37 u38 u39 u40 u41 u42 u43 u44 u45 u46 u47 u48 u49 u50 q_3 q_4 HR0 q_5 q_6 q_7 q_8 q_9 wr u2 u4 u10 u11 u12 u13 u14 u15 u16 u17 u18 u19 q_10 q_11 q_12 q_13 q_14 q_15 q_16 q_17 q_18 q_19 q_20 q_21 q_22 q_23 q_24 q_25 q_26 q_27 q_28 q_29 q_30 q_31 q_32 q_33 q_34 q_35 q_36 q_37 q_38 q_39 q_40 q_41 q_42 q_43 q_44 q_45 q_46 q_47 q_48 q_49 q_50 q_51 q_52 q_53 q_54 q_55 q_56 q_57 q_58 q_59 q_60 q_61 q_62 q_63 q_64 q_65 q_66 q_67 q_68 q_69 q_70 q_71 q_72 q_73 q_74 q_75 q_76 q_77 q_78 q_79 q_80 q_81 q_82 q_83 q_84 q_85 q_86 q_87 q_88 q_89 q_90 q_91 q_92 q_93 q_94 q_95 q_96 q_97 q_98 q_99 q_100 q_101 q_102 q_103 q_104 q_105 q_106 q_107 q_108 q_109 q_110 q_111 q_112 q_113 q_114 q_115 q_116 q_117 q_118 q_119 q_120 q_121 q_122 q_123 q_124 q_125 q_126 q_127 q_128 q_129 q_130 q_131 q_132 q_133 q_134 q_135 q_136 q_137 q_138 q_139 q_140 q_141 q_142 q_143 q_144 q_145 q_146 q_147 q_148 q_149 q_150 q_151 q_152 q_153 q_154 q_155 q_156 q_157 q_158 q_159 q_160 q_161 q_162 q_163 q_164 q_165 q_166 q_167 q_168 q_169 q_170 q_171 q_172 q_173 q_174 q_175 q_176 q_177 q_178 q_179 q_180 q_181 q_182 q_183 q_184 q_185 q_186 q_187 q_188 q_189 q_190 q_191 q_192 q_193 q_194 q_195 q_196 q_197 q_198 q_199 q_200 q_201 q_202 q_203 q_204 q_205 q_206 q_207 q_208 q_209 q_210 q_211 q_212 q_213 q_214 q_215 q_216 i L hi hLi HSc va vc HR hlt i1 P g1 g0 HP c HIX HDr hix h256 HC q_217 q_218 q_219 wc u51 u52 u53 u54 u55 u56 u57 u58 u59 u60 u61 u62 u63 u64 u65 u66 u67 u68 u69 u70 u71 u72 u73 u74 u75 u76 u77 u78 u79 u80 u81 u82 u83 u84 u85 u86 u87 u88 u89 u90 u91 u92 u93 u94 u95 u96 u97 u98 u99 u100 u101 u102 u103 u104 u105 u106 u107 u108 u109 u110 u111 u112 u113 u114 u115 u116 u117 u118 u119 u120 u121 u122 u123 u124 u125 u126 u127 u128 u129 u130 u131 u132 u133 u134 u135 u136 u137 u138 u139 u140 u141 u142 u143 u144 u145 u146 u147 u148 u149 u150 u151 u152 u153 u154 u155 u156 u157 u158 u159 u160 u161 u162 u163 u164 u165 u166 u167 u168 u169 u170 u171 u172 u173 u174 u175 u176 u177 u178 u179 u180 u181 u182 u183 u184 u185 u186 u187 u188 u189 u190 u191 u192 u193 u194 u195 u196 u197 u198 u199 u200 u201 u202 u203 u204 u205 u206 u207 u208 u209 u210 u211 u212 u213 u214 u215 u216 u217 u218 u219 u220 u221 u222 u223 u224 u225 u226 u227 u228 u229 u230 u231 u232 u233 u234 u235 u236 u237 u238 u239 u240 u241 u242 u243 u244 u245 u246 u247 u248 u249 u250 u251 u252 u253 u254 u255 u256 u257 ab HA HAb HR1 hba HBl hblf h59 b59 HBz h40
                  exact hG_F.out
                · by_cases h41 : c = 41
                  · rename_i q_1 q_2 q_3 q_4 q_5 q_6 q_7 q_8 q_9 q_10 q_11 q_12 q_13 q_14 q_15 q_16 q_17 q_18 q_19 q_20 q_21 q_22 q_23 q_24 q_25 q_26 q_27 q_28 q_29 q_30 q_31 q_32 q_33 q_34 q_35 q_36 q_37 q_38 q_39 q_40 q_41 q_42 q_43 q_44 q_45 q_46 q_47 q_48 q_49 q_50 q_51 q_52 q_53 q_54 q_55 q_56 q_57 q_58 q_59 q_60 q_61 q_62 q_63 q_64 q_65 q_66 q_67 q_68 q_69 q_70 q_71 q_72 q_73 q_74 q_75 q_76 q_77 q_78 q_79 q_80 q_81 q_82 q_83 q_84 q_85 q_86 q_87 q_88 q_89 q_90 q_91 q_92 q_93 q_94 q_95 q_96 q_97 q_98 q_99 q_100 q_101 q_102 q_103 q_104 q_105 q_106 q_107 q_108 q_109 q_110 q_111 q_112 q_113 q_114 q_115 q_116 q_117 q_118 q_119 q_120 q_121 q_122 q_123 q_124 q_125 q_126 q_127 q_128 q_129 q_130 q_131 q_132 q_133 q_134 q_135 q_136 q_137 q_138 q_139 q_140 q_141 q_142 q_143 q_144 q_145 q_146 q_147 q_148 q_149 q_150 q_151 q_152 q_153 q_154 q_155 q_156 q_157 q_158 q_159 q_160 q_161 q_162 q_163 q_164 q_165 q_166 q_167 q_168 q_169 q_170 q_171 q_172 q_173 q_174 q_175 q_176 q_177 q_178 q_179 q_180 q_181 q_182 q_183 q_184 q_185 q_186 q_187 q_188 q_189 q_190 q_191 q_192 q_193 q_194 q_195 q_196 q_197 q_198 q_199 q_200 q_201 q_202 q_203 q_204 q_205 q_206 q_207 q_208 q_209 q_210 q_211 q_212 q_213 q_214 q_215 q_216 q_217 q_218 q_219
                    revert i0 W1 hmk1 W2 HL0 HW2 HE hE q_1 h1 h6 q_2 u29 u30 u31 u32 u33 u34 u35 u36 u37 u38 u39 u40 u41 u42 u43 u44 u45 u46 u47 u48 u49 u50 q_3 q_4 HR0 q_5 q_6 q_7 q_8 q_9 wr u2 u4 u10 u11 u12 u13 u14 u15 u16 u17 u18 u19 q_10 q_11 q_12 q_13 q_14 q_15 q_16 q_17 q_18 q_19 q_20 q_21 q_22 q_23 q_24 q_25 q_26 q_27 q_28 q_29 q_30 q_31 q_32 q_33 q_34 q_35 q_36 q_37 q_38 q_39 q_40 q_41 q_42 q_43 q_44 q_45 q_46 q_47 q_48 q_49 q_50 q_51 q_52 q_53 q_54 q_55 q_56 q_57 q_58 q_59 q_60 q_61 q_62 q_63 q_64 q_65 q_66 q_67 q_68 q_69 q_70 q_71 q_72 q_73 q_74 q_75 q_76 q_77 q_78 q_79 q_80 q_81 q_82 q_83 q_84 q_85 q_86 q_87 q_88 q_89 q_90 q_91 q_92 q_93 q_94 q_95 q_96 q_97 q_98 q_99 q_100 q_101 q_102 q_103 q_104 q_105 q_106 q_107 q_108 q_109 q_110 q_111 q_112 q_113 q_114 q_115 q_116 q_117 q_118 q_119 q_120 q_121 q_122 q_123 q_124 q_125 q_126 q_127 q_128 q_129 q_130 q_131 q_132 q_133 q_134 q_135 q_136 q_137 q_138 q_139 q_140 q_141 q_142 q_143 q_144 q_145 q_146 q_147 q_148 q_149 q_150 q_151 q_152 q_153 q_154 q_155 q_156 q_157 q_158 q_159 q_160 q_161 q_162 q_163 q_164 q_165 q_166 q_167 q_168 q_169 q_170 q_171 q_172 q_173 q_174 q_175 q_176 q_177 q_178 q_179 q_180 q_181 q_182 q_183 q_184 q_185 q_186 q_187 q_188 q_189 q_190 q_191 q_192 q_193 q_194 q_195 q_196 q_197 q_198 q_199 q_200 q_201 q_202 q_203 q_204 q_205 q_206 q_207 q_208 q_209 q_210 q_211 q_212 q_213 q_214 q_215 q_216 i L hi hLi HSc va vc HR hlt i1 P g1 g0 HP c HIX HDr hix h256 HC q_217 q_218 q_219 wc u51 u52 u53 u54 u55 u56 u57 u58 u59 u60 u61 u62 u63 u64 u65 u66 u67 u68 u69 u70 u71 u72 u73 u74 u75 u76 u77 u78 u79 u80 u81 u82 u83 u84 u85 u86 u87 u88 u89 u90 u91 u92 u93 u94 u95 u96 u97 u98 u99 u100 u101 u102 u103 u104 u105 u106 u107 u108 u109 u110 u111 u112 u113 u114 u115 u116 u117 u118 u119 u120 u121 u122 u123 u124 u125 u126 u127 u128 u129 u130 u131 u132 u133 u134 u135 u136 u137 u138 u139 u140 u141 u142 u143 u144 u145 u146 u147 u148 u149 u150 u151 u152 u153 u154 u155 u156 u157 u158 u159 u160 u161 u162 u163 u164 u165 u166 u167 u168 u169 u170 u171 u172 u173 u174 u175 u176 u177 u178 u179 u180 u181 u182 u183 u184 u185 u186 u187 u188 u189 u190 u191 u192 u193 u194 u195 u196 u197 u198 u199 u200 u201 u202 u203 u204 u205 u206 u207 u208 u209 u210 u211 u212 u213 u214 u215 u216 u217 u218 u219 u220 u221 u222 u223 u224 u225 u226 u227 u228 u229 u230 u231 u232 u233 u234 u235 u236 u237 u238 u239 u240 u241 u242 u243 u244 u245 u246 u247 u248 u249 u250 u251 u252 u253 u254 u255 u256 u257 ab HA HAb HR1 hba HBl hblf h59 b59 HBz h40 h41
                    exact hG_C.out
                  · have b40 : ((c : Int) == 40) = false := by
                      have : ¬ (c : Int) = 40 := by omega
                      simpa using this
                    have b41 : ((c : Int) == 41) = false := by
                      have : ¬ (c : Int) = 41 := by omega
                      simpa using this
                    by_cases h34 : c = 34
                    · rename_i q_1 q_2 q_3 q_4 q_5 q_6 q_7 q_8 q_9 q_10 q_11 q_12 q_13 q_14 q_15 q_16 q_17 q_18 q_19 q_20 q_21 q_22 q_23 q_24 q_25 q_26 q_27 q_28 q_29 q_30 q_31 q_32 q_33 q_34 q_35 q_36 q_37 q_38 q_39 q_40 q_41 q_42 q_43 q_44 q_45 q_46 q_47 q_48 q_49 q_50 q_51 q_52 q_53 q_54 q_55 q_56 q_57 q_58 q_59 q_60 q_61 q_62 q_63 q_64 q_65 q_66 q_67 q_68 q_69 q_70 q_71 q_72 q_73 q_74 q_75 q_76 q_77 q_78 q_79 q_80 q_81 q_82 q_83 q_84 q_85 q_86 q_87 q_88 q_89 q_90 q_91 q_92 q_93 q_94 q_95 q_96 q_97 q_98 q_99 q_100 q_101 q_102 q_103 q_104 q_105 q_106 q_107 q_108 q_109 q_110 q_111 q_112 q_113 q_114 q_115 q_116 q_117 q_118 q_119 q_120 q_121 q_122 q_123 q_124 q_125 q_126 q_127 q_128 q_129 q_130 q_131 q_132 q_133 q_134 q_135 q_136 q_137 q_138 q_139 q_140 q_141 q_142 q_143 q_144 q_145 q_146 q_147 q_148 q_149 q_150 q_151 q_152 q_153 q_154 q_155 q_156 q_157 q_158 q_159 q_160 q_161 q_162 q_163 q_164 q_165 q_166 q_167 q_168 q_169 q_170 q_171 q_172 q_173 q_174 q_175 q_176 q_177 q_178 q_179 q_180 q_181 q_182 q_183 q_184 q_185 q_186 q_187 q_188 q_189 q_190 q_191 q_192 q_193 q_194 q_195 q_196 q_197 q_198 q_199 q_200 q_201 q_202 q_203 q_204 q_205 q_206 q_207 q_208 q_209 q_210 q_211 q_212 q_213 q_214 q_215 q_216 q_217 q_218 q_219
                      revert i0 W1 hmk1 W2 HL0 HW2 HE hE q_1 h1 h6 q_2 u29 u30 u31 u32 u33 u34 u35 u36 u37 u38 u39 u40 u41 u42 u43 u44 u45 u46 u47 u48 u49 u50 q_3 q_4 HR0 q_5 q_6 q_7 q_8 q_9 wr u2 u4 u10 u11 u12 u13 u14 u15 u16 u17 u18 u19 q_10 q_11 q_12 q_13 q_14 q_15 q_16 q_17 q_18 q_19 q_20 q_21 q_22 q_23 q_24 q_25 q_26 q_27 q_28 q_29 q_30 q_31 q_32 q_33 q_34 q_35 q_36 q_37 q_38 q_39 q_40 q_41 q_42 q_43 q_44 q_45 q_46 q_47 q_48 q_49 q_50 q_51 q_52 q_53 q_54 q_55 q_56 q_57 q_58 q_59 q_60 q_61 q_62 q_63 q_64 q_65 q_66 q_67 q_68 q_69 q_70 q_71 q_72 q_73 q_74 q_75 q_76 q_77 q_78 q_79 q_80 q_81 q_82 q_83 q_84 q_85 q_86 q_87 q_88 q_89 q_90 q_91 q_92 q_93 q_94 q_95 q_96 q_97 q_98 q_99 q_100 q_101 q_102 q_103 q_104 q_105 q_106 q_107 q_108 q_109 q_110 q_111 q_112 q_113 q_114 q_115 q_116 q_117 q_118 q_119 q_120 q_121 q_122 q_123 q_124 q_125 q_126 q_127 q_128 q_129 q_130 q_131 q_132 q_133 q_134 q_135 q_136 q_137 q_138 q_139 q_140 q_141 q_142 q_143 q_144 q_145 q_146 q_147 q_148 q_149 q_150 q_151 q_152 q_153 q_154 q_155 q_156 q_157 q_158 q_159 q_160 q_161 q_162 q_163 q_164 q_165 q_166 q_167 q_168 q_169 q_170 q_171 q_172 q_173 q_174 q_175 q_176 q_177 q_178 q_179 q_180 q_181 q_182 q_183 q_184 q_185 q_186 q_187 q_188 q_189 q_190 q_191 q_192 q_193 q_194 q_195 q_196 q_197 q_198 q_199 q_200 q_201 q_202 q_203 q_204 q_205 q_206 q_207 q_208 q_209 q_210 q_211 q_212 q_213 q_214 q_215 q_216 i L hi hLi HSc va vc HR hlt i1 P g1 g0 HP c HIX HDr hix h256 HC q_217 q_218 q_219 wc u51 u52 u53 u54 u55 u56 u57 u58 u59 u60 u61 u62 u63 u64 u65 u66 u67 u68 u69 u70 u71 u72 u73 u74 u75 u76 u77 u78 u79 u80 u81 u82 u83 u84 u85 u86 u87 u88 u89 u90 u91 u92 u93 u94 u95 u96 u97 u98 u99 u100 u101 u102 u103 u104 u105 u106 u107 u108 u109 u110 u111 u112 u113 u114 u115 u116 u117 u118 u119 u120 u121 u122 u123 u124 u125 u126 u127 u128 u129 u130 u131 u132 u133 u134 u135 u136 u137 u138 u139 u140 u141 u142 u143 u144 u145 u146 u147 u148 u149 u150 u151 u152 u153 u154 u155 u156 u157 u158 u159 u160 u161 u162 u163 u164 u165 u166 u167 u168 u169 u170 u171 u172 u173 u174 u175 u176 u177 u178 u179 u180 u181 u182 u183 u184 u185 u186 u187 u188 u189 u190 u191 u192 u193 u194 u195 u196 u197 u198 u199 u200 u201 u202 u203 u204 u205 u206 u207 u208 u209 u210 u211 u212 u213 u214 u215 u216 u217 u218 u219 u220 u221 u222 u223 u224 u225 u226 u227 u228 u229 u230 u231 u232 u233 u234 u235 u236 u237 u238 u239 u240 u241 u242 u243 u244 u245 u246 u247 u248 u249 u250 u251 u252 u253 u254 u255 u256 u257 ab HA HAb HR1 hba HBl hblf h59 b59 HBz h40 h41 b40 b41 h34
                      exact hG_STR.out
                    · rename_i q_1 q_2 q_3 q_4 q_5 q_6 q_7 q_8 q_9 q_10 q_11 q_12 q_13 q_14 q_15 q_16 q_17 q_18 q_19 q_20 q_21 q_22 q_23 q_24 q_25 q_26 q_27 q_28 q_29 q_30 q_31 q_32 q_33 q_34 q_35 q_36 q_37 q_38 q_39 q_40 q_41 q_42 q_43 q_44 q_45 q_46 q_47 q_48 q_49 q_50 q_51 q_52 q_53 q_54 q_55 q_56 q_57 q_58 q_59 q_60 q_61 q_62 q_63 q_64 q_65 q_66 q_67 q_68 q_69 q_70 q_71 q_72 q_73 q_74 q_75 q_76 q_77 q_78 q_79 q_80 q_81 q_82 q_83 q_84 q_85 q_86 q_87 q_88 q_89 q_90 q_91 q_92 q_93 q_94 q_95 q_96 q_97 q_98 q_99 q_100 q_101 q_102 q_103 q_104 q_105 q_106 q_107 q_108 q_109 q_110 q_111 q_112 q_113 q_114 q_115 q_116 q_117 q_118 q_119 q_120 q_121 q_122 q_123 q_124 q_125 q_126 q_127 q_128 q_129 q_130 q_131 q_132 q_133 q_134 q_135 q_136 q_137 q_138 q_139 q_140 q_141 q_142 q_143 q_144 q_145 q_146 q_147 q_148 q_149 q_150 q_151 q_152 q_153 q_154 q_155 q_156 q_157 q_158 q_159 q_160 q_161 q_162 q_163 q_164 q_165 q_166 q_167 q_168 q_169 q_170 q_171 q_172 q_173 q_174 q_175 q_176 q_177 q_178 q_179 q_180 q_181 q_182 q_183 q_184 q_185 q_186 q_187 q_188 q_189 q_190 q_191 q_192 q_193 q_194 q_195 q_196 q_197 q_198 q_199 q_200 q_201 q_202 q_203 q_204 q_205 q_206 q_207 q_208 q_209 q_210 q_211 q_212 q_213 q_214 q_215 q_216 q_217 q_218 q_219
                      revert i0 W1 hmk1 W2 HL0 HW2 HE hE q_1 h1 h6 q_2 u29 u30 u31 u32 u33 u34 u35 u36 u37 u38 u39 u40 u41 u42 u43 u44 u45 u46 u47 u48 u49 u50 q_3 q_4 HR0 q_5 q_6 q_7 q_8 q_9 wr u2 u4 u10 u11 u12 u13 u14 u15 u16 u17 u18 u19 q_10 q_11 q_12 q_13 q_14 q_15 q_16 q_17 q_18 q_19 q_20 q_21 q_22 q_23 q_24 q_25 q_26 q_27 q_28 q_29 q_30 q_31 q_32 q_33 q_34 q_35 q_36 q_37 q_38 q_39 q_40 q_41 q_42 q_43 q_44 q_45 q_46 q_47 q_48 q_49 q_50 q_51 q_52 q_53 q_54 q_55 q_56 q_57 q_58 q_59 q_60 q_61 q_62 q_63 q_64 q_65 q_66 q_67 q_68 q_69 q_70 q_71 q_72 q_73 q_74 q_75 q_76 q_77 q_78 q_79 q_80 q_81 q_82 q_83 q_84 q_85 q_86 q_87 q_88 q_89 q_90 q_91 q_92 q_93 q_94 q_95 q_96 q_97 q_98 q_99 q_100 q_101 q_102 q_103 q_104 q_105 q_106 q_107 q_108 q_109 q_110 q_111 q_112 q_113 q_114 q_115 q_116 q_117 q_118 q_119 q_120 q_121 q_122 q_123 q_124 q_125 q_126 q_127 q_128 q_129 q_130 q_131 q_132 q_133 q_134 q_135 q_136 q_137 q_138 q_139 q_140 q_141 q_142 q_143 q_144 q_145 q_146 q_147 q_148 q_149 q_150 q_151 q_152 q_153 q_154 q_155 q_156 q_157 q_158 q_159 q_160 q_161 q_162 q_163 q_164 q_165 q_166 q_167 q_168 q_169 q_170 q_171 q_172 q_173 q_174 q_175 q_176 q_177 q_178 q_179 q_180 q_181 q_182 q_183 q_184 q_185 q_186 q_187 q_188 q_189 q_190 q_191 q_192 q_193 q_194 q_195 q_196 q_197 q_198 q_199 q_200 q_201 q_202 q_203 q_204 q_205 q_206 q_207 q_208 q_209 q_210 q_211 q_212 q_213 q_214 q_215 q_216 i L hi hLi HSc va vc HR hlt i1 P g1 g0 HP c HIX HDr hix h256 HC q_217 q_218 q_219 wc u51 u52 u53 u54 u55 u56 u57 u58 u59 u60 u61 u62 u63 u64 u65 u66 u67 u68 u69 u70 u71 u72 u73 u74 u75 u76 u77 u78 u79 u80 u81 u82 u83 u84 u85 u86 u87 u88 u89 u90 u91 u92 u93 u94 u95 u96 u97 u98 u99 u100 u101 u102 u103 u104 u105 u106 u107 u108 u109 u110 u111 u112 u113 u114 u115 u116 u117 u118 u119 u120 u121 u122 u123 u124 u125 u126 u127 u128 u129 u130 u131 u132 u133 u134 u135 u136 u137 u138 u139 u140 u141 u142 u143 u144 u145 u146 u147 u148 u149 u150 u151 u152 u153 u154 u155 u156 u157 u158 u159 u160 u161 u162 u163 u164 u165 u166 u167 u168 u169 u170 u171 u172 u173 u174 u175 u176 u177 u178 u179 u180 u181 u182 u183 u184 u185 u186 u187 u188 u189 u190 u191 u192 u193 u194 u195 u196 u197 u198 u199 u200 u201 u202 u203 u204 u205 u206 u207 u208 u209 u210 u211 u212 u213 u214 u215 u216 u217 u218 u219 u220 u221 u222 u223 u224 u225 u226 u227 u228 u229 u230 u231 u232 u233 u234 u235 u236 u237 u238 u239 u240 u241 u242 u243 u244 u245 u246 u247 u248 u249 u250 u251 u252 u253 u254 u255 u256 u257 ab HA HAb HR1 hba HBl hblf h59 b59 HBz h40 h41 b40 b41 h34
                      exact hG_WORD.out
        · rename_i q_1 q_2 q_3 q_4 q_5 q_6 q_7 q_8 q_9
          revert i0 W1 hmk1 W2 HL0 HW2 HE hE q_1 h1 h6 q_2 u29 u30 u31 u32 u33 u34 u35 u36 u37 u38 u39 u40 u41 u42 u43 u44 u45 u46 u47 u48 u49 u50 q_3 q_4 HR0 q_5 q_6 q_7 q_8 q_9 wr u2 u4 u10 u11 u12 u13 u14 u15 u16 u17 u18 u19 u51 u52 u53 u54 u55 u56 u57 u58 u59 u60 u61 u62 u63 u64 u65 u66 u67 u68 u69 u70 u71 u72 u73 u74 u75 u76 u77 u78 u79 u80 u81 u82 u83 u84 u85 u86 u87 u88 u89 u90 u91 u92 u93 u94 u95 u96 u97 u98 u99 u100 u101 u102 u103 u104 u105 u106 u107 u108 u109 u110 u111 u112 u113 u114 u115 u116 u117 u118 u119 u120 u121 u122 u123 u124 u125 u126 u127 u128 u129 u130 u131 u132 u133 u134 u135 u136 u137 u138 u139 u140 u141 u142 u143 u144 u145 u146 u147 u148 u149 u150 u151 u152 u153 u154 u155 u156 u157 u158 u159 u160 u161 u162 u163 u164 u165 u166 u167 u168 u169 u170 u171 u172 u173 u174 u175 u176 u177 u178 u179 u180 u181 u182 u183 u184 u185 u186 u187 u188 u189 u190 u191 u192 u193 u194 u195 u196 u197 u198 u199 u200 u201 u202 u203 u204 u205 u206 u207 u208 u209 u210 u211 u212 u213 u214 u215 u216 u217 u218 u219 u220 u221 u222 u223 u224 u225 u226 u227 u228 u229 u230 u231 u232 u233 u234 u235 u236 u237 u238 u239 u240 u241 u242 u243 u244 u245 u246 u247 u248 u249 u250 u251 u252 u253 u254 u255 u256 u257 i L hi hLi HSc va vc HR hlt
          exact hG_FIN.out⟩
set_option maxHeartbeats 40000000 in
theorem refScan_any_A (s : ByteArray) (hs : s.size ≤ 65000) (w : World) : (refScan_any_split s hs w).1 := by
  unfold refScan_any_split
  intro i0 W1 hmk1 W2 HL0 HW2 HE hE q_1 h1 h6 q_2 u29 u30 u31 u32 u33 u34 u35 u36 u37 u38 u39 u40 u41 u42 u43 u44 u45 u46 u47 u48 u49 u50 q_3 q_4 HR0 q_5 q_6 q_7 q_8 q_9 wr u2 u4 u10 u11 u12 u13 u14 u15 u16 u17 u18 u19 q_10 q_11 q_12 q_13 q_14 q_15 q_16 q_17 q_18 q_19 q_20 q_21 q_22 q_23 q_24 q_25 q_26 q_27 q_28 q_29 q_30 q_31 q_32 q_33 q_34 q_35 q_36 q_37 q_38 q_39 q_40 q_41 q_42 q_43 q_44 q_45 q_46 q_47 q_48 q_49 q_50 q_51 q_52 q_53 q_54 q_55 q_56 q_57 q_58 q_59 q_60 q_61 q_62 q_63 q_64 q_65 q_66 q_67 q_68 q_69 q_70 q_71 q_72 q_73 q_74 q_75 q_76 q_77 q_78 q_79 q_80 q_81 q_82 q_83 q_84 q_85 q_86 q_87 q_88 q_89 q_90 q_91 q_92 q_93 q_94 q_95 q_96 q_97 q_98 q_99 q_100 q_101 q_102 q_103 q_104 q_105 q_106 q_107 q_108 q_109 q_110 q_111 q_112 q_113 q_114 q_115 q_116 q_117 q_118 q_119 q_120 q_121 q_122 q_123 q_124 q_125 q_126 q_127 q_128 q_129 q_130 q_131 q_132 q_133 q_134 q_135 q_136 q_137 q_138 q_139 q_140 q_141 q_142 q_143 q_144 q_145 q_146 q_147 q_148 q_149 q_150 q_151 q_152 q_153 q_154 q_155 q_156 q_157 q_158 q_159 q_160 q_161 q_162 q_163 q_164 q_165 q_166 q_167 q_168 q_169 q_170 q_171 q_172 q_173 q_174 q_175 q_176 q_177 q_178 q_179 q_180 q_181 q_182 q_183 q_184 q_185 q_186 q_187 q_188 q_189 q_190 q_191 q_192 q_193 q_194 q_195 q_196 q_197 q_198 q_199 q_200 q_201 q_202 q_203 q_204 q_205 q_206 q_207 q_208 q_209 q_210 q_211 q_212 q_213 q_214 q_215 q_216 i L hi hLi HSc va vc HR hlt i1 P g1 g0 HP c HIX HDr hix h256 HC q_217 q_218 q_219 wc u51 u52 u53 u54 u55 u56 u57 u58 u59 u60 u61 u62 u63 u64 u65 u66 u67 u68 u69 u70 u71 u72 u73 u74 u75 u76 u77 u78 u79 u80 u81 u82 u83 u84 u85 u86 u87 u88 u89 u90 u91 u92 u93 u94 u95 u96 u97 u98 u99 u100 u101 u102 u103 u104 u105 u106 u107 u108 u109 u110 u111 u112 u113 u114 u115 u116 u117 u118 u119 u120 u121 u122 u123 u124 u125 u126 u127 u128 u129 u130 u131 u132 u133 u134 u135 u136 u137 u138 u139 u140 u141 u142 u143 u144 u145 u146 u147 u148 u149 u150 u151 u152 u153 u154 u155 u156 u157 u158 u159 u160 u161 u162 u163 u164 u165 u166 u167 u168 u169 u170 u171 u172 u173 u174 u175 u176 u177 u178 u179 u180 u181 u182 u183 u184 u185 u186 u187 u188 u189 u190 u191 u192 u193 u194 u195 u196 u197 u198 u199 u200 u201 u202 u203 u204 u205 u206 u207 u208 u209 u210 u211 u212 u213 u214 u215 u216 u217 u218 u219 u220 u221 u222 u223 u224 u225 u226 u227 u228 u229 u230 u231 u232 u233 u234 u235 u236 u237 u238 u239 u240 u241 u242 u243 u244 u245 u246 u247 u248 u249 u250 u251 u252 u253 u254 u255 u256 u257 ab HA HAb HR1 hba HBl hbl
  have HN : Hid (ScanAt s L (i + 1)) := Lib.hid (HSc.out.blank hlt (by rw [HC.out]; exact hbl))
  rw [hbl] at HBl
  clear hbl
  go_wp2_with fail
  refine HBl.out.mono ?_
  rintro e w2 ⟨rfl, rfl⟩
  go_wp2_with fail
  go_roundw
  case rel => exact ⟨i + 1, L, by omega, by omega, by go_num, HN, HR1⟩
  case measure => simp [intOf]; omega
set_option maxHeartbeats 40000000 in
theorem refScan_any_K (s : ByteArray) (hs : s.size ≤ 65000) (w : World) : (refScan_any_split s hs w).2.1 := by
  unfold refScan_any_split
  intro i0 W1 hmk1 W2 HL0 HW2 HE hE q_1 h1 h6 q_2 u29 u30 u31 u32 u33 u34 u35 u36 u37 u38 u39 u40 u41 u42 u43 u44 u45 u46 u47 u48 u49 u50 q_3 q_4 HR0 q_5 q_6 q_7 q_8 q_9 wr u2 u4 u10 u11 u12 u13 u14 u15 u16 u17 u18 u19 q_10 q_11 q_12 q_13 q_14 q_15 q_16 q_17 q_18 q_19 q_20 q_21 q_22 q_23 q_24 q_25 q_26 q_27 q_28 q_29 q_30 q_31 q_32 q_33 q_34 q_35 q_36 q_37 q_38 q_39 q_40 q_41 q_42 q_43 q_44 q_45 q_46 q_47 q_48 q_49 q_50 q_51 q_52 q_53 q_54 q_55 q_56 q_57 q_58 q_59 q_60 q_61 q_62 q_63 q_64 q_65 q_66 q_67 q_68 q_69 q_70 q_71 q_72 q_73 q_74 q_75 q_76 q_77 q_78 q_79 q_80 q_81 q_82 q_83 q_84 q_85 q_86 q_87 q_88 q_89 q_90 q_91 q_92 q_93 q_94 q_95 q_96 q_97 q_98 q_99 q_100 q_101 q_102 q_103 q_104 q_105 q_106 q_107 q_108 q_109 q_110 q_111 q_112 q_113 q_114 q_115 q_116 q_117 q_118 q_119 q_120 q_121 q_122 q_123 q_124 q_125 q_126 q_127 q_128 q_129 q_130 q_131 q_132 q_133 q_134 q_135 q_136 q_137 q_138 q_139 q_140 q_141 q_142 q_143 q_144 q_145 q_146 q_147 q_148 q_149 q_150 q_151 q_152 q_153 q_154 q_155 q_156 q_157 q_158 q_159 q_160 q_161 q_162 q_163 q_164 q_165 q_166 q_167 q_168 q_169 q_170 q_171 q_172 q_173 q_174 q_175 q_176 q_177 q_178 q_179 q_180 q_181 q_182 q_183 q_184 q_185 q_186 q_187 q_188 q_189 q_190 q_191 q_192 q_193 q_194 q_195 q_196 q_197 q_198 q_199 q_200 q_201 q_202 q_203 q_204 q_205 q_206 q_207 q_208 q_209 q_210 q_211 q_212 q_213 q_214 q_215 q_216 i L hi hLi HSc va vc HR hlt i1 P g1 g0 HP c HIX HDr hix h256 HC q_217 q_218 q_219 wc u51 u52 u53 u54 u55 u56 u57 u58 u59 u60 u61 u62 u63 u64 u65 u66 u67 u68 u69 u70 u71 u72 u73 u74 u75 u76 u77 u78 u79 u80 u81 u82 u83 u84 u85 u86 u87 u88 u89 u90 u91 u92 u93 u94 u95 u96 u97 u98 u99 u100 u101 u102 u103 u104 u105 u106 u107 u108 u109 u110 u111 u112 u113 u114 u115 u116 u117 u118 u119 u120 u121 u122 u123 u124 u125 u126 u127 u128 u129 u130 u131 u132 u133 u134 u135 u136 u137 u138 u139 u140 u141 u142 u143 u144 u145 u146 u147 u148 u149 u150 u151 u152 u153 u154 u155 u156 u157 u158 u159 u160 u161 u162 u163 u164 u165 u166 u167 u168 u169 u170 u171 u172 u173 u174 u175 u176 u177 u178 u179 u180 u181 u182 u183 u184 u185 u186 u187 u188 u189 u190 u191 u192 u193 u194 u195 u196 u197 u198 u199 u200 u201 u202 u203 u204 u205 u206 u207 u208 u209 u210 u211 u212 u213 u214 u215 u216 u217 u218 u219 u220 u221 u222 u223 u224 u225 u226 u227 u228 u229 u230 u231 u232 u233 u234 u235 u236 u237 u238 u239 u240 u241 u242 u243 u244 u245 u246 u247 u248 u249 u250 u251 u252 u253 u254 u255 u256 u257 ab HA HAb HR1 hba HBl hblf h59
  have b59 : ((c : Int) == 59) = true := by rw [h59]; rfl
  have HK0 : Hid (i + blankLen true ((bytesOf s).drop i) = i + blankLen false ((bytesOf s).drop i)) := Lib.hid (by
    rw [HDr.out, h59]
    rfl)
  have HBlen := Lib.hid (bytesOf_length s)
  have HNot : Hid (¬ c = 10) := Lib.hid (by omega)
  clear h59 hblf
  go_wp2_with fail
  refine HBl.out.mono ?_
  rintro e w2 ⟨rfl, rfl⟩
  go_wp2_with fail
  go_loop [9] (fun vj => ∃ j : Nat, i ≤ j ∧ j ≤ s.size ∧ vj = .int .i64 j ∧ Hid (j + blankLen true ((bytesOf s).drop j) = i + blankLen false ((bytesOf s).drop i))) (fun vj => s.size - (intOf vj).toNat)
  case atStart => exact ⟨i, Nat.le_refl _, hi, rfl, HK0⟩
  case round =>
    obtain ⟨j, hij, hjs, rfl, HJ⟩ := hrel
    by_cases hjl : j < s.size
    · have j1 : (j : Int) < (s.size : Int) := by omega
      have hjx := idx_str s j hjl (by omega)
      have HJd := Lib.hid (drop_at (bytesOf s) j (by rw [HBlen.out]; exact hjl))
      obtain ⟨d, hd⟩ : ∃ d, d = (bytesOf s).getD j 0 := ⟨_, rfl⟩
      rw [← hd] at hjx HJd
      clear hd
      by_cases h10 : d = 10
      · have b10 : ((d : Int) != 10) = false := by rw [h10]; rfl
        have HE : Hid (j + blankLen false ((bytesOf s).drop j) = i + blankLen false ((bytesOf s).drop i)) := Lib.hid (by
          rw [← HJ.out, HJd.out, h10, blank_10])
        have HN := Lib.hid (HSc.out.skip j hij hjs HE.out)
        have HP1 : Hid (i < j) := Lib.hid (by
          rcases Nat.lt_or_ge i j with h | h
          · exact h
          · exfalso
            have : j = i := by omega
            subst this
            have e1 := HDr.out
            have e2 := HJd.out
            rw [e1] at e2
            injection e2 with e3
            exact HNot.out (by rw [e3]; exact h10))
        clear h10
        go_wp2_with fail
        go_roundw
        case rel => exact ⟨j, L, hjs, by omega, rfl, HN, HR1⟩
        case measure => have := HP1.out; simp [intOf]; omega
      · have b10 : ((d : Int) != 10) = true := by
          have : ¬ (d : Int) = 10 := by omega
          simpa using this
        have HE : Hid (j + 1 + blankLen true ((bytesOf s).drop (j + 1)) = i + blankLen false ((bytesOf s).drop i)) := Lib.hid (by
          rw [← HJ.out, HJd.out]
          show _ = j + (if d = 10 then 1 + blankLen false _ else 1 + blankLen true _)
          rw [if_neg h10]
          omega)
        clear h10
        go_wp2_with fail
        go_round
        case rel => exact ⟨j + 1, by omega, by omega, by go_num, HE⟩
        case measure => simp [intOf]; omega
    · have j1 : ¬ (j : Int) < (s.size : Int) := by omega
      obtain rfl : j = s.size := by omega
      have HE : Hid (s.size + blankLen false ((bytesOf s).drop s.size) = i + blankLen false ((bytesOf s).drop i)) := Lib.hid (by
        rw [← HJ.out, blank_end true _ _ (by rw [HBlen.out]; exact Nat.le_refl _), blank_end false _ _ (by rw [HBlen.out]; exact Nat.le_refl _)])
      have HN := Lib.hid (HSc.out.skip s.size hij hjs HE.out)
      go_wp2_with fail
      go_roundw
      case rel => exact ⟨s.size, L, Nat.le_refl _, by omega, rfl, HN, HR1⟩
      case measure => simp [intOf]; omega
set_option maxHeartbeats 40000000 in
theorem refScan_any_F (s : ByteArray) (hs : s.size ≤ 65000) (w : World) : (refScan_any_split s hs w).2.2.1 := by
  unfold refScan_any_split
  intro i0 W1 hmk1 W2 HL0 HW2 HE hE q_1 h1 h6 q_2 u29 u30 u31 u32 u33 u34 u35 u36 u37 u38 u39 u40 u41 u42 u43 u44 u45 u46 u47 u48 u49 u50 q_3 q_4 HR0 q_5 q_6 q_7 q_8 q_9 wr u2 u4 u10 u11 u12 u13 u14 u15 u16 u17 u18 u19 q_10 q_11 q_12 q_13 q_14 q_15 q_16 q_17 q_18 q_19 q_20 q_21 q_22 q_23 q_24 q_25 q_26 q_27 q_28 q_29 q_30 q_31 q_32 q_33 q_34 q_35 q_36 q_37 q_38 q_39 q_40 q_41 q_42 q_43 q_44 q_45 q_46 q_47 q_48 q_49 q_50 q_51 q_52 q_53 q_54 q_55 q_56 q_57 q_58 q_59 q_60 q_61 q_62 q_63 q_64 q_65 q_66 q_67 q_68 q_69 q_70 q_71 q_72 q_73 q_74 q_75 q_76 q_77 q_78 q_79 q_80 q_81 q_82 q_83 q_84 q_85 q_86 q_87 q_88 q_89 q_90 q_91 q_92 q_93 q_94 q_95 q_96 q_97 q_98 q_99 q_100 q_101 q_102 q_103 q_104 q_105 q_106 q_107 q_108 q_109 q_110 q_111 q_112 q_113 q_114 q_115 q_116 q_117 q_118 q_119 q_120 q_121 q_122 q_123 q_124 q_125 q_126 q_127 q_128 q_129 q_130 q_131 q_132 q_133 q_134 q_135 q_136 q_137 q_138 q_139 q_140 q_141 q_142 q_143 q_144 q_145 q_146 q_147 q_148 q_149 q_150 q_151 q_152 q_153 q_154 q_155 q_156 q_157 q_158 q_159 q_160 q_161 q_162 q_163 q_164 q_165 q_166 q_167 q_168 q_169 q_170 q_171 q_172 q_173 q_174 q_175 q_176 q_177 q_178 q_179 q_180 q_181 q_182 q_183 q_184 q_185 q_186 q_187 q_188 q_189 q_190 q_191 q_192 q_193 q_194 q_195 q_196 q_197 q_198 q_199 q_200 q_201 q_202 q_203 q_204 q_205 q_206 q_207 q_208 q_209 q_210 q_211 q_212 q_213 q_214 q_215 q_216 i L hi hLi HSc va vc HR hlt i1 P g1 g0 HP c HIX HDr hix h256 HC q_217 q_218 q_219 wc u51 u52 u53 u54 u55 u56 u57 u58 u59 u60 u61 u62 u63 u64 u65 u66 u67 u68 u69 u70 u71 u72 u73 u74 u75 u76 u77 u78 u79 u80 u81 u82 u83 u84 u85 u86 u87 u88 u89 u90 u91 u92 u93 u94 u95 u96 u97 u98 u99 u100 u101 u102 u103 u104 u105 u106 u107 u108 u109 u110 u111 u112 u113 u114 u115 u116 u117 u118 u119 u120 u121 u122 u123 u124 u125 u126 u127 u128 u129 u130 u131 u132 u133 u134 u135 u136 u137 u138 u139 u140 u141 u142 u143 u144 u145 u146 u147 u148 u149 u150 u151 u152 u153 u154 u155 u156 u157 u158 u159 u160 u161 u162 u163 u164 u165 u166 u167 u168 u169 u170 u171 u172 u173 u174 u175 u176 u177 u178 u179 u180 u181 u182 u183 u184 u185 u186 u187 u188 u189 u190 u191 u192 u193 u194 u195 u196 u197 u198 u199 u200 u201 u202 u203 u204 u205 u206 u207 u208 u209 u210 u211 u212 u213 u214 u215 u216 u217 u218 u219 u220 u221 u222 u223 u224 u225 u226 u227 u228 u229 u230 u231 u232 u233 u234 u235 u236 u237 u238 u239 u240 u241 u242 u243 u244 u245 u246 u247 u248 u249 u250 u251 u252 u253 u254 u255 u256 u257 ab HA HAb HR1 hba HBl hblf h59 b59 HBz h40
  subst h40
  have HN := Lib.hid (HSc.out.tok hlt HBz.out (tok_open s i HC.out))
  rw [← HP.out] at HN
  have a0 := cell_of_row wc ab 0 _ _ (0, 0) HA.out
  have a1 := cell_of_row wc ab 1 _ _ (0, 0) HA.out
  have hal : Below wc.heap.size wc (wc.alloc (.cells #[.int .i64 0, .int .i64 (P.1 : Int), .int .i64 (P.2 : Int), .int .i64 0, .string ⟨#[]⟩] 38)) := (Below.refl _ _).alloc (Nat.le_refl _) _
  obtain ⟨nv, W9, hr, hown, hb9⟩ := run_snoc_tokR (wc.alloc (.cells #[.int .i64 0, .int .i64 (P.1 : Int), .int .i64 (P.2 : Int), .int .i64 0, .string ⟨#[]⟩] 38)) 29 (w.heap.size + 3) wc.heap.size (.slice va L.length vc) L ⟨0, P, 0, ⟨#[]⟩⟩ (own_only HR1.out.row (Only.of_below (F := fun _ => False) hal) (fun _ _ h => h)) (fun j u hu => cell_at0 wc _ _ j u (by
    show (tokCells ⟨0, P, 0, ⟨#[]⟩⟩).toArray[j]? = some u
    rw [List.getElem?_toArray]
    exact hu)) (by omega) (by have := hal.size; have := HR1.out.size; omega)
  have HR9 : Hid (RW w W9 s nv (L ++ [⟨0, P, 0, ⟨#[]⟩⟩])) := Lib.hid (HR1.out.grow ((hal.mono HR1.out.size).trans hb9) hown)
  have HRn := Lib.hid hr
  clear hal hr hown hb9
  clear h59
  go_wp2_with fail
  refine HBl.out.mono ?_
  rintro e w2 ⟨rfl, rfl⟩
  go_wp2_with (at_builtin; refine wpList_append_run rfl (.tmp 86) (.tmp 92) 29 29 rfl rfl rfl HRn.out ?_)
  go_roundw
  case rel => exact ⟨i + 1, L ++ [⟨0, P, 0, ⟨#[]⟩⟩], by omega, by rw [List.length_append]; exact Nat.succ_le_succ hLi, by go_num, HN, HR9⟩
  case measure => simp [intOf]; omega
set_option maxHeartbeats 40000000 in
theorem refScan_any_C (s : ByteArray) (hs : s.size ≤ 65000) (w : World) : (refScan_any_split s hs w).2.2.2.1 := by
  unfold refScan_any_split
  intro i0 W1 hmk1 W2 HL0 HW2 HE hE q_1 h1 h6 q_2 u29 u30 u31 u32 u33 u34 u35 u36 u37 u38 u39 u40 u41 u42 u43 u44 u45 u46 u47 u48 u49 u50 q_3 q_4 HR0 q_5 q_6 q_7 q_8 q_9 wr u2 u4 u10 u11 u12 u13 u14 u15 u16 u17 u18 u19 q_10 q_11 q_12 q_13 q_14 q_15 q_16 q_17 q_18 q_19 q_20 q_21 q_22 q_23 q_24 q_25 q_26 q_27 q_28 q_29 q_30 q_31 q_32 q_33 q_34 q_35 q_36 q_37 q_38 q_39 q_40 q_41 q_42 q_43 q_44 q_45 q_46 q_47 q_48 q_49 q_50 q_51 q_52 q_53 q_54 q_55 q_56 q_57 q_58 q_59 q_60 q_61 q_62 q_63 q_64 q_65 q_66 q_67 q_68 q_69 q_70 q_71 q_72 q_73 q_74 q_75 q_76 q_77 q_78 q_79 q_80 q_81 q_82 q_83 q_84 q_85 q_86 q_87 q_88 q_89 q_90 q_91 q_92 q_93 q_94 q_95 q_96 q_97 q_98 q_99 q_100 q_101 q_102 q_103 q_104 q_105 q_106 q_107 q_108 q_109 q_110 q_111 q_112 q_113 q_114 q_115 q_116 q_117 q_118 q_119 q_120 q_121 q_122 q_123 q_124 q_125 q_126 q_127 q_128 q_129 q_130 q_131 q_132 q_133 q_134 q_135 q_136 q_137 q_138 q_139 q_140 q_141 q_142 q_143 q_144 q_145 q_146 q_147 q_148 q_149 q_150 q_151 q_152 q_153 q_154 q_155 q_156 q_157 q_158 q_159 q_160 q_161 q_162 q_163 q_164 q_165 q_166 q_167 q_168 q_169 q_170 q_171 q_172 q_173 q_174 q_175 q_176 q_177 q_178 q_179 q_180 q_181 q_182 q_183 q_184 q_185 q_186 q_187 q_188 q_189 q_190 q_191 q_192 q_193 q_194 q_195 q_196 q_197 q_198 q_199 q_200 q_201 q_202 q_203 q_204 q_205 q_206 q_207 q_208 q_209 q_210 q_211 q_212 q_213 q_214 q_215 q_216 i L hi hLi HSc va vc HR hlt i1 P g1 g0 HP c HIX HDr hix h256 HC q_217 q_218 q_219 wc u51 u52 u53 u54 u55 u56 u57 u58 u59 u60 u61 u62 u63 u64 u65 u66 u67 u68 u69 u70 u71 u72 u73 u74 u75 u76 u77 u78 u79 u80 u81 u82 u83 u84 u85 u86 u87 u88 u89 u90 u91 u92 u93 u94 u95 u96 u97 u98 u99 u100 u101 u102 u103 u104 u105 u106 u107 u108 u109 u110 u111 u112 u113 u114 u115 u116 u117 u118 u119 u120 u121 u122 u123 u124 u125 u126 u127 u128 u129 u130 u131 u132 u133 u134 u135 u136 u137 u138 u139 u140 u141 u142 u143 u144 u145 u146 u147 u148 u149 u150 u151 u152 u153 u154 u155 u156 u157 u158 u159 u160 u161 u162 u163 u164 u165 u166 u167 u168 u169 u170 u171 u172 u173 u174 u175 u176 u177 u178 u179 u180 u181 u182 u183 u184 u185 u186 u187 u188 u189 u190 u191 u192 u193 u194 u195 u196 u197 u198 u199 u200 u201 u202 u203 u204 u205 u206 u207 u208 u209 u210 u211 u212 u213 u214 u215 u216 u217 u218 u219 u220 u221 u222 u223 u224 u225 u226 u227 u228 u229 u230 u231 u232 u233 u234 u235 u236 u237 u238 u239 u240 u241 u242 u243 u244 u245 u246 u247 u248 u249 u250 u251 u252 u253 u254 u255 u256 u257 ab HA HAb HR1 hba HBl hblf h59 b59 HBz h40 h41
  subst h41
  have HN := Lib.hid (HSc.out.tok hlt HBz.out (tok_close s i HC.out))
  rw [← HP.out] at HN
  have a0 := cell_of_row wc ab 0 _ _ (0, 0) HA.out
  have a1 := cell_of_row wc ab 1 _ _ (0, 0) HA.out
  have hal : Below wc.heap.size wc (wc.alloc (.cells #[.int .i64 1, .int .i64 (P.1 : Int), .int .i64 (P.2 : Int), .int .i64 0, .string ⟨#[]⟩] 38)) := (Below.refl _ _).alloc (Nat.le_refl _) _
  obtain ⟨nv, W9, hr, hown, hb9⟩ := run_snoc_tokR (wc.alloc (.cells #[.int .i64 1, .int .i64 (P.1 : Int), .int .i64 (P.2 : Int), .int .i64 0, .string ⟨#[]⟩] 38)) 29 (w.heap.size + 3) wc.heap.size (.slice va L.length vc) L ⟨1, P, 0, ⟨#[]⟩⟩ (own_only HR1.out.row (Only.of_below (F := fun _ => False) hal) (fun _ _ h => h)) (fun j u hu => cell_at0 wc _ _ j u (by
    show (tokCells ⟨1, P, 0, ⟨#[]⟩⟩).toArray[j]? = some u
    rw [List.getElem?_toArray]
    exact hu)) (by omega) (by have := hal.size; have := HR1.out.size; omega)
  have HR9 : Hid (RW w W9 s nv (L ++ [⟨1, P, 0, ⟨#[]⟩⟩])) := Lib.hid (HR1.out.grow ((hal.mono HR1.out.size).trans hb9) hown)
  have HRn := Lib.hid hr
  clear hal hr hown hb9
  clear h59 h40
  go_wp2_with fail
  refine HBl.out.mono ?_
  rintro e w2 ⟨rfl, rfl⟩
  go_wp2_with (at_builtin; refine wpList_append_run rfl (.tmp 86) (.tmp 92) 29 29 rfl rfl rfl HRn.out ?_)
  go_roundw
  case rel => exact ⟨i + 1, L ++ [⟨1, P, 0, ⟨#[]⟩⟩], by omega, by rw [List.length_append]; exact Nat.succ_le_succ hLi, by go_num, HN, HR9⟩
  case measure => simp [intOf]; omega
set_option maxHeartbeats 40000000 in
theorem refScan_any_STR (s : ByteArray) (hs : s.size ≤ 65000) (w : World) : (refScan_any_split s hs w).2.2.2.2.1 := by
  unfold refScan_any_split
  intro i0 W1 hmk1 W2 HL0 HW2 HE hE q_1 h1 h6 q_2 u29 u30 u31 u32 u33 u34 u35 u36 u37 u38 u39 u40 u41 u42 u43 u44 u45 u46 u47 u48 u49 u50 q_3 q_4 HR0 q_5 q_6 q_7 q_8 q_9 wr u2 u4 u10 u11 u12 u13 u14 u15 u16 u17 u18 u19 q_10 q_11 q_12 q_13 q_14 q_15 q_16 q_17 q_18 q_19 q_20 q_21 q_22 q_23 q_24 q_25 q_26 q_27 q_28 q_29 q_30 q_31 q_32 q_33 q_34 q_35 q_36 q_37 q_38 q_39 q_40 q_41 q_42 q_43 q_44 q_45 q_46 q_47 q_48 q_49 q_50 q_51 q_52 q_53 q_54 q_55 q_56 q_57 q_58 q_59 q_60 q_61 q_62 q_63 q_64 q_65 q_66 q_67 q_68 q_69 q_70 q_71 q_72 q_73 q_74 q_75 q_76 q_77 q_78 q_79 q_80 q_81 q_82 q_83 q_84 q_85 q_86 q_87 q_88 q_89 q_90 q_91 q_92 q_93 q_94 q_95 q_96 q_97 q_98 q_99 q_100 q_101 q_102 q_103 q_104 q_105 q_106 q_107 q_108 q_109 q_110 q_111 q_112 q_113 q_114 q_115 q_116 q_117 q_118 q_119 q_120 q_121 q_122 q_123 q_124 q_125 q_126 q_127 q_128 q_129 q_130 q_131 q_132 q_133 q_134 q_135 q_136 q_137 q_138 q_139 q_140 q_141 q_142 q_143 q_144 q_145 q_146 q_147 q_148 q_149 q_150 q_151 q_152 q_153 q_154 q_155 q_156 q_157 q_158 q_159 q_160 q_161 q_162 q_163 q_164 q_165 q_166 q_167 q_168 q_169 q_170 q_171 q_172 q_173 q_174 q_175 q_176 q_177 q_178 q_179 q_180 q_181 q_182 q_183 q_184 q_185 q_186 q_187 q_188 q_189 q_190 q_191 q_192 q_193 q_194 q_195 q_196 q_197 q_198 q_199 q_200 q_201 q_202 q_203 q_204 q_205 q_206 q_207 q_208 q_209 q_210 q_211 q_212 q_213 q_214 q_215 q_216 i L hi hLi HSc va vc HR hlt i1 P g1 g0 HP c HIX HDr hix h256 HC q_217 q_218 q_219 wc u51 u52 u53 u54 u55 u56 u57 u58 u59 u60 u61 u62 u63 u64 u65 u66 u67 u68 u69 u70 u71 u72 u73 u74 u75 u76 u77 u78 u79 u80 u81 u82 u83 u84 u85 u86 u87 u88 u89 u90 u91 u92 u93 u94 u95 u96 u97 u98 u99 u100 u101 u102 u103 u104 u105 u106 u107 u108 u109 u110 u111 u112 u113 u114 u115 u116 u117 u118 u119 u120 u121 u122 u123 u124 u125 u126 u127 u128 u129 u130 u131 u132 u133 u134 u135 u136 u137 u138 u139 u140 u141 u142 u143 u144 u145 u146 u147 u148 u149 u150 u151 u152 u153 u154 u155 u156 u157 u158 u159 u160 u161 u162 u163 u164 u165 u166 u167 u168 u169 u170 u171 u172 u173 u174 u175 u176 u177 u178 u179 u180 u181 u182 u183 u184 u185 u186 u187 u188 u189 u190 u191 u192 u193 u194 u195 u196 u197 u198 u199 u200 u201 u202 u203 u204 u205 u206 u207 u208 u209 u210 u211 u212 u213 u214 u215 u216 u217 u218 u219 u220 u221 u222 u223 u224 u225 u226 u227 u228 u229 u230 u231 u232 u233 u234 u235 u236 u237 u238 u239 u240 u241 u242 u243 u244 u245 u246 u247 u248 u249 u250 u251 u252 u253 u254 u255 u256 u257 ab HA HAb HR1 hba HBl hblf h59 b59 HBz h40 h41 b40 b41 h34
  have b34 : ((c : Int) != 34) = false := by rw [h34]; rfl
  subst h34
  have HC34 := HC
  obtain ⟨wq, hwq⟩ : ∃ x, x = wr := ⟨_, rfl⟩
  rw [← hwq] at HR
  have HRq := HR
  clear HR hwq h59 hblf h40 h41
  have HBs := Lib.hid (bytesOf_length s)
  have HS0 := Lib.hid (StrAt.start s i)
  go_wp2_with fail
  refine HBl.out.mono ?_
  rintro e w2 ⟨rfl, rfl⟩
  go_wp2_with fail
  go_loopw [15, 16, 17] (fun vb vk vd wx => ∃ (k : Nat) (bs : List Nat) (dn : Bool), i + 1 ≤ k ∧ k ≤ s.size ∧ bs.length ≤ k ∧ vk = .int .i64 k ∧ vd = .bool dn ∧ Hid (StrAt s i bs k dn) ∧ Hid (wx.ownsRow wc.heap.size 5 1 vb bs.length (vals bs)) ∧ Hid (Below wc.heap.size wc wx)) (fun _ vk _ _ => s.size - (intOf vk).toNat)
  case atStart => exact ⟨i + 1, [], false, Nat.le_refl _, hlt, Nat.zero_le _, by go_num, rfl, HS0, Lib.hid (own_none _ _), Lib.hid (Below.refl _ _)⟩
  case round =>
    obtain ⟨k, bs, dn, hik, hks, hbk, rfl, rfl, HSt, HOb, HBw⟩ := hrel
    obtain ⟨ba, bc, rfl⟩ := own_slice HOb.out
    have HRw := Lib.hid (HR1.out.step HBw.out)
    have HAw := Lib.hid ((HBw.out.block ab (heap_lt HA.out)).trans HA.out)
    cases dn with
    | true =>
      have hbyte := own_bytes HOb.out HSt.out.1 (by unfold maxLen; omega)
      have hdone : strR ((bytesOf s).drop (i + 1)) = .done bs (k - (i + 1)) := HSt.out.2
      by_cases hbl4 : bs.length ≤ 4096
      · have HN := Lib.hid (str_ok HSc.out hlt HBz.out HC34.out hdone hbl4)
        have hkk : i + (1 + (k - (i + 1))) = k := by omega
        rw [hkk, ← HP.out] at HN
        have b4 : ¬ (4096 : Int) < (bs.length : Int) := by omega
        obtain ⟨ba', bc', hbe, hrow, _⟩ := hbyte
        cases hbe
        have hcv := fun cap => conv_row cap hrow
        have a0 := cell_of_row wr ab 0 _ _ (0, 0) HAw.out
        have a1 := cell_of_row wr ab 1 _ _ (0, 0) HAw.out
        generalize hbt : bstr bs = tb at *
        have hal : Below wr.heap.size wr (wr.alloc (.cells #[.int .i64 4, .int .i64 (P.1 : Int), .int .i64 (P.2 : Int), .int .i64 0, .string tb] 38)) := (Below.refl _ _).alloc (Nat.le_refl _) _
        obtain ⟨nv, W9, hr, hown, hb9⟩ := run_snoc_tokR (wr.alloc (.cells #[.int .i64 4, .int .i64 (P.1 : Int), .int .i64 (P.2 : Int), .int .i64 0, .string tb] 38)) 29 (w.heap.size + 3) wr.heap.size (.slice va L.length vc) L ⟨4, P, 0, tb⟩ (own_only HRw.out.row (Only.of_below (F := fun _ => False) hal) (fun _ _ h => h)) (fun j u hu => cell_at0 wr _ _ j u (by
          show (tokCells ⟨4, P, 0, tb⟩).toArray[j]? = some u
          rw [List.getElem?_toArray]
          exact hu)) (by omega) (by have := hal.size; have := HRw.out.size; omega)
        have HR9 : Hid (RW w W9 s nv (L ++ [⟨4, P, 0, tb⟩])) := Lib.hid (HRw.out.grow ((hal.mono HRw.out.size).trans hb9) hown)
        have HRn := Lib.hid hr
        clear hal hr hown hb9
        clear hkk hdone hrow
        by_cases hkl : k < s.size
        · have k1 : (k : Int) < (s.size : Int) := by omega
          go_wp2_with (at_builtin; refine wpList_append_run rfl (.tmp 250) (.tmp 255) 29 29 rfl rfl rfl HRn.out ?_)
          go_roundw
          case rel => exact ⟨k, L ++ [⟨4, P, 0, tb⟩], hks, by rw [List.length_append]; show L.length + 1 ≤ k; omega, rfl, HN, HR9⟩
          case measure => simp [intOf]; omega
        · have k1 : ¬ (k : Int) < (s.size : Int) := by omega
          go_wp2_with (at_builtin; refine wpList_append_run rfl (.tmp 250) (.tmp 255) 29 29 rfl rfl rfl HRn.out ?_)
          go_roundw
          case rel => exact ⟨k, L ++ [⟨4, P, 0, tb⟩], hks, by rw [List.length_append]; show L.length + 1 ≤ k; omega, rfl, HN, HR9⟩
          case measure => simp [intOf]; omega
      · have HBad := Lib.hid (str_long HSc.out hlt HBz.out HC34.out hdone hbl4)
        rw [← HP.out] at HBad
        have b4 : (4096 : Int) < (bs.length : Int) := by omega
        by_cases hkl : k < s.size
        · have k1 : (k : Int) < (s.size : Int) := by omega
          obtain ⟨y0, y1, f0, f1⟩ := HRw.out.res_cells
          have a0 := cell_of_row wr ab 0 _ _ (0, 0) HAw.out
          have a1 := cell_of_row wr ab 1 _ _ (0, 0) HAw.out
          obtain ⟨WF, hWF, e0, e1, hpost⟩ := bad_post HRw.out HBad.out
          have HWF := Lib.hid hWF
          have HPost := Lib.hid hpost
          clear hWF hpost
          go_upto_region 63 with fail
          go_region
          all_goals (
            go_wp2_with fail
            rw [← HWF.out]
            refine bodyPost_ret (v := .tuple #[.slice none 0 0, .agg #[.int .i64 (P.1 : Int), .int .i64 (P.2 : Int)], .int .i64 10]) (by simp [results, Try.results11, go_sem, e0, e1]) rfl HPost.out)
        · have k1 : ¬ (k : Int) < (s.size : Int) := by omega
          obtain ⟨y0, y1, f0, f1⟩ := HRw.out.res_cells
          have a0 := cell_of_row wr ab 0 _ _ (0, 0) HAw.out
          have a1 := cell_of_row wr ab 1 _ _ (0, 0) HAw.out
          obtain ⟨WF, hWF, e0, e1, hpost⟩ := bad_post HRw.out HBad.out
          have HWF := Lib.hid hWF
          have HPost := Lib.hid hpost
          clear hWF hpost
          go_upto_region 63 with fail
          go_region
          all_goals (
            go_wp2_with fail
            rw [← HWF.out]
            refine bodyPost_ret (v := .tuple #[.slice none 0 0, .agg #[.int .i64 (P.1 : Int), .int .i64 (P.2 : Int)], .int .i64 10]) (by simp [results, Try.results11, go_sem, e0, e1]) rfl HPost.out)
    | false =>
      by_cases hkl : k < s.size
      · have k1 : (k : Int) < (s.size : Int) := by omega
        have hkx := idx_str s k hkl (by omega)
        have h256d := byte_lt s k
        obtain ⟨d, hd⟩ : ∃ d, d = (bytesOf s).getD k 0 := ⟨_, rfl⟩
        rw [← hd] at hkx h256d
        have HD := Lib.hid hd
        clear hd
        by_cases d34 : d = 34
        · have HN := Lib.hid (HSt.out.close hik hkl (by rw [← HD.out]; exact d34))
          have b34d : ((d : Int) == 34) = true := by rw [d34]; rfl
          clear d34
          go_wp2_with fail
          go_roundw
          case rel => exact ⟨k + 1, bs, true, by omega, by omega, by (first | exact hbk1 | (rw [List.length_append]; show bs.length + 1 ≤ _; omega) | omega), by go_num, rfl, HN, HOb, HBw⟩
          case measure => simp [intOf]; omega
        · have b34d : ((d : Int) == 34) = false := by
            have : ¬ (d : Int) = 34 := by omega
            simpa using this
          by_cases dlow : d < 32
          · have HBad := Lib.hid (str_bad HSc.out hlt HBz.out HC34.out (HSt.out.bad hik hkl (by rw [← HD.out]; exact d34) (char_low s k hkl (by rw [← HD.out]; exact dlow))))
            have hkk : i + 1 + (k + 0 - (i + 1)) = k := by omega
            rw [hkk] at HBad
            have i32 : (d : Int) < 32 := by omega
            obtain ⟨q0, q1⟩ := HRw.out.place k hkl
            obtain ⟨y0, y1, f0, f1⟩ := HRw.out.res_cells
            have k2 : (k : Int) < (s.size : Int) + 1 := by omega
            obtain ⟨Q, hQ⟩ : ∃ Q, Q = posAt (bytesOf s) k := ⟨_, rfl⟩
            rw [← hQ] at HBad q0 q1
            clear hQ hkk
            obtain ⟨WF, hWF, e0, e1, hpost⟩ := bad_post HRw.out HBad.out
            have HWF := Lib.hid hWF
            have HPost := Lib.hid hpost
            clear hWF hpost
            go_upto_region 43 with fail
            go_region
            all_goals (
              go_wp2_with fail
              rw [← HWF.out]
              refine bodyPost_ret (v := .tuple #[.slice none 0 0, .agg #[.int .i64 (Q.1 : Int), .int .i64 (Q.2 : Int)], .int .i64 10]) (by simp [results, Try.results11, go_sem, e0, e1]) rfl HPost.out)
          · have i32 : ¬ (d : Int) < 32 := by omega
            by_cases d92 : d = 92
            · have b92 : ((d : Int) != 92) = false := by rw [d92]; rfl
              by_cases hk1 : k + 1 < s.size
              · have k2 : ¬ (s.size : Int) ≤ (k : Int) + 1 := by omega
                have hch := char_esc s k hk1 (by rw [← HD.out]; exact d92)
                have hkx1 := idx_str s (k + 1) hk1 (by omega)
                have h256e := byte_lt s (k + 1)
                obtain ⟨g, hg⟩ : ∃ g, g = (bytesOf s).getD (k + 1) 0 := ⟨_, rfl⟩
                rw [← hg] at hkx1 h256e hch
                have ek1 : ((k + 1 : Nat) : Int) = (k : Int) + 1 := by omega
                rw [ek1] at hkx1
                clear ek1
                have HG := Lib.hid hg
                have HN34 : Hid (¬ (bytesOf s).getD k 0 = 34) := Lib.hid (by rw [← HD.out]; exact d34)
                clear hg
                by_cases gq : g = 34 ∨ g = 92
                · rw [if_pos gq] at hch
                  have HN := Lib.hid (HSt.out.step hik hkl HN34.out hch)
                  clear hch d34 dlow d92
                  rcases gq with g34 | g92
                  · have bg34 : ((g : Int) == 34) = true := by rw [g34]; rfl
                    clear g34
                    have hal : Below wr.heap.size wr (wr.alloc (.cells #[.int .u8 ((g : Nat) : Int)] 5)) := (Below.refl _ _).alloc (Nat.le_refl _) _
                    obtain ⟨nv, W9, hr, hown, hb9⟩ := run_snoc_byte (wr.alloc (.cells #[.int .u8 ((g : Nat) : Int)] 5)) 46 wc.heap.size wr.heap.size (.slice ba bs.length bc) bs g (own_only HOb.out (Only.of_below (F := fun _ => False) hal) (fun _ _ h => h)) (cell_at0 wr _ _ 0 _ rfl) (by omega) (by have := HBw.out.size; have := hal.size; omega)
                    have HO9 := Lib.hid hown
                    have HB9 : Hid (Below wc.heap.size wc W9) := Lib.hid (HBw.out.trans ((hal.mono HBw.out.size).trans hb9))
                    have HRn := Lib.hid hr
                    clear hal hr hown hb9
                    go_wp2_with (at_builtin; refine wpList_append_run rfl (.tmp 178) (.tmp 180) 46 46 rfl rfl rfl HRn.out ?_)
                    go_roundw
                    case rel => exact ⟨k + 2, bs ++ [g], false, by omega, by omega, by (first | exact hbk1 | (rw [List.length_append]; show bs.length + 1 ≤ _; omega) | omega), by go_num, rfl, HN, HO9, HB9⟩
                    case measure => simp [intOf]; omega
                  · have bg34 : ((g : Int) == 34) = false := by rw [g92]; rfl
                    have bg92 : ((g : Int) == 92) = true := by rw [g92]; rfl
                    clear g92
                    have hal : Below wr.heap.size wr (wr.alloc (.cells #[.int .u8 ((g : Nat) : Int)] 5)) := (Below.refl _ _).alloc (Nat.le_refl _) _
                    obtain ⟨nv, W9, hr, hown, hb9⟩ := run_snoc_byte (wr.alloc (.cells #[.int .u8 ((g : Nat) : Int)] 5)) 46 wc.heap.size wr.heap.size (.slice ba bs.length bc) bs g (own_only HOb.out (Only.of_below (F := fun _ => False) hal) (fun _ _ h => h)) (cell_at0 wr _ _ 0 _ rfl) (by omega) (by have := HBw.out.size; have := hal.size; omega)
                    have HO9 := Lib.hid hown
                    have HB9 : Hid (Below wc.heap.size wc W9) := Lib.hid (HBw.out.trans ((hal.mono HBw.out.size).trans hb9))
                    have HRn := Lib.hid hr
                    clear hal hr hown hb9
                    go_wp2_with (at_builtin; refine wpList_append_run rfl (.tmp 178) (.tmp 180) 46 46 rfl rfl rfl HRn.out ?_)
                    go_roundw
                    case rel => exact ⟨k + 2, bs ++ [g], false, by omega, by omega, by (first | exact hbk1 | (rw [List.length_append]; show bs.length + 1 ≤ _; omega) | omega), by go_num, rfl, HN, HO9, HB9⟩
                    case measure => simp [intOf]; omega
                · rw [if_neg gq] at hch
                  have bg34 : ((g : Int) == 34) = false := by
                    have : ¬ (g : Int) = 34 := by omega
                    simpa using this
                  have bg92 : ((g : Int) == 92) = false := by
                    have : ¬ (g : Int) = 92 := by omega
                    simpa using this
                  by_cases g110 : g = 110
                  · rw [if_pos g110] at hch
                    have HN := Lib.hid (HSt.out.step hik hkl HN34.out hch)
                    have bg110 : ((g : Int) == 110) = true := by rw [g110]; rfl
                    have hal : Below wr.heap.size wr (wr.alloc (.cells #[.int .u8 ((10 : Nat) : Int)] 5)) := (Below.refl _ _).alloc (Nat.le_refl _) _
                    obtain ⟨nv, W9, hr, hown, hb9⟩ := run_snoc_byte (wr.alloc (.cells #[.int .u8 ((10 : Nat) : Int)] 5)) 46 wc.heap.size wr.heap.size (.slice ba bs.length bc) bs 10 (own_only HOb.out (Only.of_below (F := fun _ => False) hal) (fun _ _ h => h)) (cell_at0 wr _ _ 0 _ rfl) (by omega) (by have := HBw.out.size; have := hal.size; omega)
                    have HO9 := Lib.hid hown
                    have HB9 : Hid (Below wc.heap.size wc W9) := Lib.hid (HBw.out.trans ((hal.mono HBw.out.size).trans hb9))
                    have elit : ((10 : Nat) : Int) = 10 := rfl
                    rw [elit] at hr
                    have HRn := Lib.hid hr
                    clear hal hr hown hb9
                    clear hch d34 dlow d92 g110 gq
                    go_wp2_with (at_builtin; refine wpList_append_run rfl (.tmp 186) (.tmp 187) 46 46 rfl rfl rfl HRn.out ?_)
                    go_roundw
                    case rel => exact ⟨k + 2, bs ++ [10], false, by omega, by omega, by (first | exact hbk1 | (rw [List.length_append]; show bs.length + 1 ≤ _; omega) | omega), by go_num, rfl, HN, HO9, HB9⟩
                    case measure => simp [intOf]; omega
                  · rw [if_neg g110] at hch
                    have bg110 : ((g : Int) == 110) = false := by
                      have : ¬ (g : Int) = 110 := by omega
                      simpa using this
                    by_cases g120 : g = 120
                    · rw [if_pos g120] at hch
                      have bg120 : ((g : Int) == 120) = true := by rw [g120]; rfl
                      have hbl := HBs.out
                      by_cases hk3 : k + 3 < s.size
                      · have k4 : ¬ (s.size : Int) ≤ (k : Int) + 3 := by omega
                        have hkx2 := idx_str s (k + 2) (by omega) (by omega)
                        have hkx3 := idx_str s (k + 3) hk3 (by omega)
                        have h256x := byte_lt s (k + 2)
                        have h256y := byte_lt s (k + 3)
                        have HX1 := Lib.hid (fun h => xS_no1 (bytesOf s) (k + 2) (.inr h))
                        have HX2 := Lib.hid (fun h => xS_no2 (bytesOf s) (k + 2) (by rw [hbl]; omega) (.inr h))
                        have HX3 := Lib.hid (fun x y hx hy => xS_yes (bytesOf s) (k + 2) x y (by rw [hbl]; omega) hx hy)
                        have ek2 : ((k + 2 : Nat) : Int) = (k : Int) + 2 := by omega
                        have ek3 : ((k + 3 : Nat) : Int) = (k : Int) + 3 := by omega
                        rw [ek2] at hkx2
                        rw [ek3] at hkx3
                        clear ek2 ek3
                        have ek : k + 2 + 1 = k + 3 := rfl
                        rw [ek] at HX2 HX3
                        generalize (bytesOf s).getD (k + 2) 0 = x1 at *
                        generalize (bytesOf s).getD (k + 3) 0 = y1 at *
                        have HH1 := Lib.hid (fun W => hex_any x1 h256x W)
                        have HH2 := Lib.hid (fun W => hex_any y1 h256y W)
                        cases hx : hexV x1 with
                        | none =>
                          have HBd : Hid (charS ((bytesOf s).drop k) = .bad 1) := Lib.hid (by rw [hch, HX1.out hx])
                          rw [hexI_none hx] at HH1
                          have HBad := Lib.hid (str_bad HSc.out hlt HBz.out HC34.out (HSt.out.bad hik hkl HN34.out HBd.out))
                          have hkk : i + 1 + (k + 1 - (i + 1)) = k + 1 := by omega
                          rw [hkk] at HBad
                          obtain ⟨q0, q1⟩ := HRw.out.place (k + 1) hk1
                          obtain ⟨y0, y1', f0, f1⟩ := HRw.out.res_cells
                          have k5 : (k : Int) + 1 < (s.size : Int) + 1 := by omega
                          obtain ⟨Q, hQ⟩ : ∃ Q, Q = posAt (bytesOf s) (k + 1) := ⟨_, rfl⟩
                          rw [← hQ] at HBad q0 q1
                          clear hQ hkk
                          obtain ⟨WF, hWF, e0, e1, hpost⟩ := bad_post HRw.out HBad.out
                          have HWF := Lib.hid hWF
                          have HPost := Lib.hid hpost
                          clear hWF hpost
                          go_wp2_with fail
                          refine (HH1.out wr).mono ?_
                          rintro e w3 ⟨rfl, rfl⟩
                          go_upto_region 58 with fail
                          go_region
                          all_goals (
                            go_wp2_with fail
                            rw [← HWF.out]
                            refine bodyPost_ret (v := .tuple #[.slice none 0 0, .agg #[.int .i64 (Q.1 : Int), .int .i64 (Q.2 : Int)], .int .i64 10]) (by simp [results, Try.results11, go_sem, e0, e1]) rfl HPost.out)
                        | some xv =>
                          have HHx := hexV_lt hx
                          rw [hexI_some hx] at HH1
                          cases hy : hexV y1 with
                          | none =>
                            have HBd : Hid (charS ((bytesOf s).drop k) = .bad 1) := Lib.hid (by rw [hch, HX2.out hy])
                            rw [hexI_none hy] at HH2
                            have HBad := Lib.hid (str_bad HSc.out hlt HBz.out HC34.out (HSt.out.bad hik hkl HN34.out HBd.out))
                            have hkk : i + 1 + (k + 1 - (i + 1)) = k + 1 := by omega
                            rw [hkk] at HBad
                            obtain ⟨q0, q1⟩ := HRw.out.place (k + 1) hk1
                            obtain ⟨y0, y1', f0, f1⟩ := HRw.out.res_cells
                            have k5 : (k : Int) + 1 < (s.size : Int) + 1 := by omega
                            obtain ⟨Q, hQ⟩ : ∃ Q, Q = posAt (bytesOf s) (k + 1) := ⟨_, rfl⟩
                            rw [← hQ] at HBad q0 q1
                            clear hQ hkk
                            obtain ⟨WF, hWF, e0, e1, hpost⟩ := bad_post HRw.out HBad.out
                            have HWF := Lib.hid hWF
                            have HPost := Lib.hid hpost
                            clear hWF hpost
                            go_wp2_with fail
                            refine (HH1.out wr).mono ?_
                            rintro e w3 ⟨rfl, rfl⟩
                            go_wp2_with fail
                            refine (HH2.out wr).mono ?_
                            rintro e w3 ⟨rfl, rfl⟩
                            go_upto_region 58 with fail
                            go_region
                            all_goals (
                              go_wp2_with fail
                              rw [← HWF.out]
                              refine bodyPost_ret (v := .tuple #[.slice none 0 0, .agg #[.int .i64 (Q.1 : Int), .int .i64 (Q.2 : Int)], .int .i64 10]) (by simp [results, Try.results11, go_sem, e0, e1]) rfl HPost.out)
                          | some yv =>
                            have HHy := hexV_lt hy
                            rw [hexI_some hy] at HH2
                            have HOk : Hid (charS ((bytesOf s).drop k) = .ok (xv * 16 + yv) 4) := Lib.hid (by rw [hch, HX3.out xv yv hx hy])
                            have HN := Lib.hid (HSt.out.step hik hkl HN34.out HOk.out)
                            obtain ⟨y, hyd⟩ : ∃ y : Nat, y = xv * 16 + yv := ⟨_, rfl⟩
                            rw [← hyd] at HN
                            have hy0 : (xv : Int) * 16 + (yv : Int) = (y : Int) := by omega
                            have hy256 : y < 256 := by omega
                            have HY := Lib.hid hy0
                            have HY8 : Hid ((y : Int) % 256 = (y : Int)) := Lib.hid (by omega)
                            have HYd := Lib.hid hyd
                            have HWr : Hid (∀ x : Int, 0 ≤ x ∧ x ≤ 1000000 → IntKind.i64.wrap x = x) := Lib.hid (fun x hx => by simp only [IntKind.wrap, IntKind.bits, IntKind.signed]; simp; omega)
                            clear hyd hch hx hy
                            go_wp2_with fail
                            refine (HH1.out wr).mono ?_
                            rintro e w3 ⟨rfl, rfl⟩
                            go_wp2_with fail
                            refine (HH2.out wr).mono ?_
                            rintro e w3 ⟨rfl, rfl⟩
                            go_upto_region 59 with fail
                            refine wp_region_tail_lit [.is (.slice ba bs.length bc), .is (.string s), .is (.int .i64 (k : Int)), .is (.int .i64 ((k : Int) + 2)), .is (.int .u8 (x1 : Int)), .is (.int .i64 (xv : Int)), .is (.int .i64 ((xv : Int) * 16)), .is (.string s), .is (.int .i64 (k : Int)), .is (.int .i64 ((k : Int) + 3)), .is (.int .u8 (y1 : Int)), .is (.int .i64 (yv : Int)), .is (.int .i64 (y : Int)), .is (.int .u8 (y : Int)), .has (OneB y)] (by kernel_rfl) (by kernel_rfl) (by kernel_rfl) (by kernel_rfl) ?_
                            iterate 5 (refine wpInvT_is ?_ ?_; (focus (intro W hW hF K hK; clear hF; go_simp; first | exact hK _ _ (Gl.refl _) rfl | exact hK _ _ (Gl.refl _) (congrArg (Value.int .i64) (HWr.out _ (by omega))) | exact hK _ _ (Gl.refl _) (congrArg (Value.int .u8) HY8.out))); simp only [Act.put, List.setIfInBounds_toArray, List.set_cons_zero, List.set_cons_succ])
                            refine wpInvT_is ?_ ?_
                            · intro W hW hF K hK
                              clear hF
                              go_simp
                              refine (HH1.out W).mono ?_
                              rintro e w1 ⟨rfl, rfl⟩
                              exact ⟨_, rfl, hK _ _ (Gl.refl _) rfl⟩
                            simp only [Act.put, List.setIfInBounds_toArray, List.set_cons_zero, List.set_cons_succ]
                            iterate 5 (refine wpInvT_is ?_ ?_; (focus (intro W hW hF K hK; clear hF; go_simp; first | exact hK _ _ (Gl.refl _) rfl | exact hK _ _ (Gl.refl _) (congrArg (Value.int .i64) (HWr.out _ (by omega))) | exact hK _ _ (Gl.refl _) (congrArg (Value.int .u8) HY8.out))); simp only [Act.put, List.setIfInBounds_toArray, List.set_cons_zero, List.set_cons_succ])
                            refine wpInvT_is ?_ ?_
                            · intro W hW hF K hK
                              clear hF
                              go_simp
                              refine (HH2.out W).mono ?_
                              rintro e w1 ⟨rfl, rfl⟩
                              exact ⟨_, rfl, hK _ _ (Gl.refl _) rfl⟩
                            simp only [Act.put, List.setIfInBounds_toArray, List.set_cons_zero, List.set_cons_succ]
                            iterate 2 (refine wpInvT_is ?_ ?_; (focus (intro W hW hF K hK; clear hF; go_simp; first | exact hK _ _ (Gl.refl _) rfl | exact hK _ _ (Gl.refl _) (congrArg (Value.int .i64) (HWr.out _ (by omega))) | exact hK _ _ (Gl.refl _) (congrArg (Value.int .u8) HY8.out))); simp only [Act.put, List.setIfInBounds_toArray, List.set_cons_zero, List.set_cons_succ])
                            refine wpInvT_has _ (oneB_stable _) ?_ ?_
                            · intro W hW hF K hK
                              clear hF
                              go_simp
                              exact hK _ _ (Gl.alloc W _) ⟨W.heap.size, rfl, cell_at0 W _ _ 0 _ rfl⟩
                            intro v233
                            simp only [Act.put, List.setIfInBounds_toArray, List.set_cons_zero, List.set_cons_succ]
                            refine wpInvT_tail ?_
                            intro W hW hF
                            obtain ⟨g1, rfl, hg1⟩ := hF _ (List.mem_cons_self ..)
                            clear hF
                            obtain ⟨nv, W5, hr, hown, hb5⟩ := run_snoc_byte W 46 wc.heap.size g1 (.slice ba bs.length bc) bs y (own_only HOb.out (Only.of_below (F := fun _ => False) hW.undrew) (fun _ _ h => h)) hg1 (by omega) (by have := HBw.out.size; have := hW.undrew.size; omega)
                            have HO9 := Lib.hid hown
                            have HB9 : Hid (Below wc.heap.size wc W5) := Lib.hid (HBw.out.trans ((hW.undrew.mono HBw.out.size).trans hb5))
                            rw [TailL]
                            refine step_append rfl (.tmp 219) (.tmp 233) 46 rfl rfl rfl hr ?_
                            clear hr hW hown hb5 hg1
                            simp only [TailL]
                            go_simp
                            go_wp2_with fail
                            go_roundw
                            case rel => exact ⟨k + 4, bs ++ [y], false, by omega, by omega, by (first | exact hbk1 | (rw [List.length_append]; show bs.length + 1 ≤ _; omega) | omega), by go_num, rfl, HN, HO9, HB9⟩
                            case measure => simp [intOf]; omega
                      · have HBd : Hid (charS ((bytesOf s).drop k) = .bad 1) := Lib.hid (by rw [hch, xS_no2' (bytesOf s) (k + 2) (by rw [hbl]; omega)])
                        have k4 : (s.size : Int) ≤ (k : Int) + 3 := by omega
                        have HBad := Lib.hid (str_bad HSc.out hlt HBz.out HC34.out (HSt.out.bad hik hkl HN34.out HBd.out))
                        have hkk : i + 1 + (k + 1 - (i + 1)) = k + 1 := by omega
                        rw [hkk] at HBad
                        obtain ⟨q0, q1⟩ := HRw.out.place (k + 1) hk1
                        obtain ⟨y0, y1', f0, f1⟩ := HRw.out.res_cells
                        have k5 : (k : Int) + 1 < (s.size : Int) + 1 := by omega
                        obtain ⟨Q, hQ⟩ : ∃ Q, Q = posAt (bytesOf s) (k + 1) := ⟨_, rfl⟩
                        rw [← hQ] at HBad q0 q1
                        clear hQ hkk
                        obtain ⟨WF, hWF, e0, e1, hpost⟩ := bad_post HRw.out HBad.out
                        have HWF := Lib.hid hWF
                        have HPost := Lib.hid hpost
                        clear hWF hpost
                        go_upto_region 58 with fail
                        go_region
                        all_goals (
                          go_wp2_with fail
                          rw [← HWF.out]
                          refine bodyPost_ret (v := .tuple #[.slice none 0 0, .agg #[.int .i64 (Q.1 : Int), .int .i64 (Q.2 : Int)], .int .i64 10]) (by simp [results, Try.results11, go_sem, e0, e1]) rfl HPost.out)
                    · rw [if_neg g120] at hch
                      have bg120 : ((g : Int) == 120) = false := by
                        have : ¬ (g : Int) = 120 := by omega
                        simpa using this
                      have HBd : Hid (charS ((bytesOf s).drop k) = .bad 1) := Lib.hid hch
                      have HBad := Lib.hid (str_bad HSc.out hlt HBz.out HC34.out (HSt.out.bad hik hkl HN34.out HBd.out))
                      have hkk : i + 1 + (k + 1 - (i + 1)) = k + 1 := by omega
                      rw [hkk] at HBad
                      obtain ⟨q0, q1⟩ := HRw.out.place (k + 1) hk1
                      obtain ⟨y0, y1', f0, f1⟩ := HRw.out.res_cells
                      have k5 : (k : Int) + 1 < (s.size : Int) + 1 := by omega
                      obtain ⟨Q, hQ⟩ : ∃ Q, Q = posAt (bytesOf s) (k + 1) := ⟨_, rfl⟩
                      rw [← hQ] at HBad q0 q1
                      clear hQ hkk
                      obtain ⟨WF, hWF, e0, e1, hpost⟩ := bad_post HRw.out HBad.out
                      have HWF := Lib.hid hWF
                      have HPost := Lib.hid hpost
                      clear hWF hpost
                      go_upto_region 61 with fail
                      go_region
                      all_goals (
                        go_wp2_with fail
                        rw [← HWF.out]
                        refine bodyPost_ret (v := .tuple #[.slice none 0 0, .agg #[.int .i64 (Q.1 : Int), .int .i64 (Q.2 : Int)], .int .i64 10]) (by simp [results, Try.results11, go_sem, e0, e1]) rfl HPost.out)
              · have HN := Lib.hid (HSt.out.cut hik (by omega) (by rw [← HD.out]; exact d92))
                have k2 : (s.size : Int) ≤ (k : Int) + 1 := by omega
                clear d34 dlow d92
                go_wp2_with fail
                go_roundw
                case rel => exact ⟨k + 1, bs, false, by omega, by omega, by (first | exact hbk1 | (rw [List.length_append]; show bs.length + 1 ≤ _; omega) | omega), by go_num, rfl, HN, HOb, HBw⟩
                case measure => simp [intOf]; omega
            · have b92 : ((d : Int) != 92) = true := by
                have : ¬ (d : Int) = 92 := by omega
                simpa using this
              have HN := Lib.hid (HSt.out.step hik hkl (by rw [← HD.out]; exact d34) (char_plain s k hkl (by rw [← HD.out]; exact dlow) (by rw [← HD.out]; exact d92)))
              rw [← HD.out] at HN
              have hal : Below wr.heap.size wr (wr.alloc (.cells #[.int .u8 ((d : Nat) : Int)] 5)) := (Below.refl _ _).alloc (Nat.le_refl _) _
              obtain ⟨nv, W9, hr, hown, hb9⟩ := run_snoc_byte (wr.alloc (.cells #[.int .u8 ((d : Nat) : Int)] 5)) 46 wc.heap.size wr.heap.size (.slice ba bs.length bc) bs d (own_only HOb.out (Only.of_below (F := fun _ => False) hal) (fun _ _ h => h)) (cell_at0 wr _ _ 0 _ rfl) (by omega) (by have := HBw.out.size; have := hal.size; omega)
              have HO9 := Lib.hid hown
              have HB9 : Hid (Below wc.heap.size wc W9) := Lib.hid (HBw.out.trans ((hal.mono HBw.out.size).trans hb9))
              have HRn := Lib.hid hr
              clear hal hr hown hb9
              clear d34 dlow d92
              go_wp2_with (at_builtin; refine wpList_append_run rfl (.tmp 155) (.tmp 157) 46 46 rfl rfl rfl HRn.out ?_)
              go_roundw
              case rel => exact ⟨k + 1, bs ++ [d], false, by omega, by omega, by (first | exact hbk1 | (rw [List.length_append]; show bs.length + 1 ≤ _; omega) | omega), by go_num, rfl, HN, HO9, HB9⟩
              case measure => simp [intOf]; omega
      · obtain rfl : k = s.size := by omega
        have k1 : ¬ (s.size : Int) < (s.size : Int) := by omega
        have HBad := Lib.hid (str_open HSc.out hlt HBz.out HC34.out HSt.out.open)
        rw [← HP.out] at HBad
        obtain ⟨y0, y1, f0, f1⟩ := HRw.out.res_cells
        have a0 := cell_of_row wr ab 0 _ _ (0, 0) HAw.out
        have a1 := cell_of_row wr ab 1 _ _ (0, 0) HAw.out
        obtain ⟨WF, hWF, e0, e1, hpost⟩ := bad_post HRw.out HBad.out
        have HWF := Lib.hid hWF
        have HPost := Lib.hid hpost
        clear hWF hpost
        go_upto_region 63 with fail
        go_region
        all_goals (
          go_wp2_with fail
          rw [← HWF.out]
          refine bodyPost_ret (v := .tuple #[.slice none 0 0, .agg #[.int .i64 (P.1 : Int), .int .i64 (P.2 : Int)], .int .i64 10]) (by simp [results, Try.results11, go_sem, e0, e1]) rfl HPost.out)
set_option maxHeartbeats 40000000 in
theorem refScan_any_WORD (s : ByteArray) (hs : s.size ≤ 65000) (w : World) : (refScan_any_split s hs w).2.2.2.2.2.1 := by
  unfold refScan_any_split
  intro i0 W1 hmk1 W2 HL0 HW2 HE hE q_1 h1 h6 q_2 u29 u30 u31 u32 u33 u34 u35 u36 u37 u38 u39 u40 u41 u42 u43 u44 u45 u46 u47 u48 u49 u50 q_3 q_4 HR0 q_5 q_6 q_7 q_8 q_9 wr u2 u4 u10 u11 u12 u13 u14 u15 u16 u17 u18 u19 q_10 q_11 q_12 q_13 q_14 q_15 q_16 q_17 q_18 q_19 q_20 q_21 q_22 q_23 q_24 q_25 q_26 q_27 q_28 q_29 q_30 q_31 q_32 q_33 q_34 q_35 q_36 q_37 q_38 q_39 q_40 q_41 q_42 q_43 q_44 q_45 q_46 q_47 q_48 q_49 q_50 q_51 q_52 q_53 q_54 q_55 q_56 q_57 q_58 q_59 q_60 q_61 q_62 q_63 q_64 q_65 q_66 q_67 q_68 q_69 q_70 q_71 q_72 q_73 q_74 q_75 q_76 q_77 q_78 q_79 q_80 q_81 q_82 q_83 q_84 q_85 q_86 q_87 q_88 q_89 q_90 q_91 q_92 q_93 q_94 q_95 q_96 q_97 q_98 q_99 q_100 q_101 q_102 q_103 q_104 q_105 q_106 q_107 q_108 q_109 q_110 q_111 q_112 q_113 q_114 q_115 q_116 q_117 q_118 q_119 q_120 q_121 q_122 q_123 q_124 q_125 q_126 q_127 q_128 q_129 q_130 q_131 q_132 q_133 q_134 q_135 q_136 q_137 q_138 q_139 q_140 q_141 q_142 q_143 q_144 q_145 q_146 q_147 q_148 q_149 q_150 q_151 q_152 q_153 q_154 q_155 q_156 q_157 q_158 q_159 q_160 q_161 q_162 q_163 q_164 q_165 q_166 q_167 q_168 q_169 q_170 q_171 q_172 q_173 q_174 q_175 q_176 q_177 q_178 q_179 q_180 q_181 q_182 q_183 q_184 q_185 q_186 q_187 q_188 q_189 q_190 q_191 q_192 q_193 q_194 q_195 q_196 q_197 q_198 q_199 q_200 q_201 q_202 q_203 q_204 q_205 q_206 q_207 q_208 q_209 q_210 q_211 q_212 q_213 q_214 q_215 q_216 i L hi hLi HSc va vc HR hlt i1 P g1 g0 HP c HIX HDr hix h256 HC q_217 q_218 q_219 wc u51 u52 u53 u54 u55 u56 u57 u58 u59 u60 u61 u62 u63 u64 u65 u66 u67 u68 u69 u70 u71 u72 u73 u74 u75 u76 u77 u78 u79 u80 u81 u82 u83 u84 u85 u86 u87 u88 u89 u90 u91 u92 u93 u94 u95 u96 u97 u98 u99 u100 u101 u102 u103 u104 u105 u106 u107 u108 u109 u110 u111 u112 u113 u114 u115 u116 u117 u118 u119 u120 u121 u122 u123 u124 u125 u126 u127 u128 u129 u130 u131 u132 u133 u134 u135 u136 u137 u138 u139 u140 u141 u142 u143 u144 u145 u146 u147 u148 u149 u150 u151 u152 u153 u154 u155 u156 u157 u158 u159 u160 u161 u162 u163 u164 u165 u166 u167 u168 u169 u170 u171 u172 u173 u174 u175 u176 u177 u178 u179 u180 u181 u182 u183 u184 u185 u186 u187 u188 u189 u190 u191 u192 u193 u194 u195 u196 u197 u198 u199 u200 u201 u202 u203 u204 u205 u206 u207 u208 u209 u210 u211 u212 u213 u214 u215 u216 u217 u218 u219 u220 u221 u222 u223 u224 u225 u226 u227 u228 u229 u230 u231 u232 u233 u234 u235 u236 u237 u238 u239 u240 u241 u242 u243 u244 u245 u246 u247 u248 u249 u250 u251 u252 u253 u254 u255 u256 u257 ab HA HAb HR1 hba HBl hblf h59 b59 HBz h40 h41 b40 b41 h34
  have b34 : ((c : Int) != 34) = true := by
    have : ¬ (c : Int) = 34 := by omega
    simpa using this
  have hend : isEnd c = false := isEnd_not c hblf h40 h41 h34 h59
  have hbs := bytesOf_length s
  obtain ⟨len, hlen⟩ : ∃ len, len = wordLen ((bytesOf s).drop i) := ⟨_, rfl⟩
  have hl1 : 1 ≤ len := by rw [hlen, wordLen_in _ i (by rw [hbs]; exact hlt) (by rw [HC.out]; exact hend)]; omega
  have HTW := Lib.hid (tok_wd s i (by rw [HC.out]; exact h40) (by rw [HC.out]; exact h41) (by rw [HC.out]; exact h34))
  rw [← hlen] at HTW
  have HLen := Lib.hid hlen
  have HBs := Lib.hid hbs
  clear hend h40 h41 h34 h59 hblf hlen hbs
  go_wp2_with fail
  refine HBl.out.mono ?_
  rintro e w2 ⟨rfl, rfl⟩
  go_wp2_with fail
  go_loop [12] (fun vk => ∃ k : Nat, i ≤ k ∧ k ≤ s.size ∧ vk = .int .i64 k ∧ Hid (k + wordLen ((bytesOf s).drop k) = i + len)) (fun vk => s.size - (intOf vk).toNat)
  case atStart => exact ⟨i, Nat.le_refl _, hi, rfl, Lib.hid (by rw [HLen.out])⟩
  case round =>
    obtain ⟨k, hik, hks, rfl, HK⟩ := hrel
    by_cases hkl : k < s.size
    · have k1 : (k : Int) < (s.size : Int) := by omega
      have hkx := idx_str s k hkl (by omega)
      have h256d := byte_lt s k
      have HIn := Lib.hid (wordLen_in (bytesOf s) k (by rw [HBs.out]; exact hkl))
      have HOut := Lib.hid (fun h => wordLen_out (bytesOf s) k (.inr h))
      generalize (bytesOf s).getD k 0 = d at *
      have HEn := Lib.hid (ends_any d h256d wc)
      by_cases he : isEnd d = true
      · have hkk : k = i + len := by have := HK.out; rw [HOut.out he] at this; omega
        rw [he] at HEn
        have HKK := Lib.hid hkk
        clear hkk he HIn HOut
        have ik : (i : Int) ≤ (k : Int) := by omega
        have ks : (k : Int) ≤ (s.size : Int) := by omega
        go_wp2_with fail
        refine HEn.out.mono ?_
        rintro e w2 ⟨rfl, rfl⟩
        have hex : s.extract i k = bstr (((bytesOf s).drop i).take len) := by rw [extract_bstr s i k hik, HKK.out]; congr 2; omega
        have hsub : (bstr (((bytesOf s).drop i).take len)).size = len := by rw [size_bstr, List.length_take, List.length_drop, HBs.out]; have := HKK.out; omega
        have hki := HKK.out
        generalize bstr (((bytesOf s).drop i).take len) = sub at *
        have HWd := Lib.hid (refWord_any sub (by omega) (by omega) wc)
        rw [← word_order sub (by omega)] at HWd
        generalize wordS sub = wr0 at *
        clear hki hsub
        go_wp2_with fail
        refine HWd.out.mono ?_
        clear HWd
        rintro e w3 ⟨he, hb3⟩
        have HR3 := Lib.hid (HR1.out.step hb3)
        have hablt := heap_lt HA.out
        have HA3 := Lib.hid ((hb3.block ab hablt).trans HA.out)
        have hb3s := hb3.size
        clear hb3
        cases wr0 with
        | none =>
          have he2 : e = .returned (.tuple #[.agg #[.int .i64 0, .int .i64 0, .int .i64 0, .int .i64 0, .string ⟨#[]⟩], .bool false]) := he
          subst he2
          clear he
          have HBad : Hid (scanS s = .bad P) := Lib.hid (by
            have := HSc.out.bad hlt HBz.out (k := 0) HTW.out
            rw [Nat.add_zero, ← HP.out] at this
            exact this)
          obtain ⟨W4, hW4⟩ : ∃ W4, W4 = w3.alloc (.cells #[.int .i64 0, .int .i64 0, .int .i64 0, .int .i64 0, .string ⟨#[]⟩] 38) := ⟨_, rfl⟩
          have hb4 : Below w3.heap.size w3 W4 := by rw [hW4]; exact (Below.refl _ _).alloc (Nat.le_refl _) _
          have HR4 := Lib.hid (HR3.out.step hb4)
          have HA4 := Lib.hid ((hb4.block ab (heap_lt HA3.out)).trans HA3.out)
          obtain ⟨y0, y1, f0, f1⟩ := HR4.out.res_cells
          have a0 := cell_of_row W4 ab 0 _ _ (0, 0) HA4.out
          have a1 := cell_of_row W4 ab 1 _ _ (0, 0) HA4.out
          obtain ⟨WF, hWF, e0, e1, hpost⟩ := bad_post HR4.out HBad.out
          have HWF := Lib.hid hWF
          have HPost := Lib.hid hpost
          have HW4 := Lib.hid hW4
          clear hb4 hW4 hWF hpost
          go_upto_region 30 with fail
          rw [← HW4.out]
          go_region
          all_goals (
            go_wp2_with fail
            rw [← HWF.out]
            refine bodyPost_ret (v := .tuple #[.slice none 0 0, .agg #[.int .i64 (P.1 : Int), .int .i64 (P.2 : Int)], .int .i64 10]) (by simp [results, Try.results11, go_sem, e0, e1]) rfl HPost.out)
        | some x =>
          obtain ⟨k', n, t⟩ := x
          have he2 : e = .returned (.tuple #[.agg #[.int .i64 k', .int .i64 0, .int .i64 0, .int .i64 n, .string t], .bool true]) := he
          subst he2
          clear he
          have HN := Lib.hid (HSc.out.tok hlt HBz.out HTW.out)
          rw [← HP.out, ← HKK.out] at HN
          have ha1 : Below w3.heap.size w3 (w3.alloc (.cells #[.int .i64 k', .int .i64 0, .int .i64 0, .int .i64 n, .string t] 38)) := (Below.refl _ _).alloc (Nat.le_refl _) _
          have a0 := cell_of_row _ ab 0 _ _ (0, 0) ((ha1.block ab (heap_lt HA3.out)).trans HA3.out)
          have a1 := cell_of_row _ ab 1 _ _ (0, 0) ((ha1.block ab (heap_lt HA3.out)).trans HA3.out)
          obtain ⟨W4, hW4⟩ : ∃ W4, W4 = w3.alloc (.cells #[.int .i64 k', .int .i64 (P.1 : Int), .int .i64 (P.2 : Int), .int .i64 n, .string t] 38) := ⟨_, rfl⟩
          have hb4 : Below w3.heap.size w3 W4 := by rw [hW4]; exact (Below.refl _ _).alloc (Nat.le_refl _) _
          have hs4 : W4.heap.size = w3.heap.size + 1 := by rw [hW4]; exact size_alloc' w3 _
          have HR4 := Lib.hid (HR3.out.step hb4)
          have hal : Below W4.heap.size W4 (W4.alloc (.cells #[.int .i64 k', .int .i64 (P.1 : Int), .int .i64 (P.2 : Int), .int .i64 n, .string t] 38)) := (Below.refl _ _).alloc (Nat.le_refl _) _
          obtain ⟨nv, W9, hr, hown, hb9⟩ := run_snoc_tokR (W4.alloc (.cells #[.int .i64 k', .int .i64 (P.1 : Int), .int .i64 (P.2 : Int), .int .i64 n, .string t] 38)) 29 (w.heap.size + 3) W4.heap.size (.slice va L.length vc) L ⟨k', P, n, t⟩ (own_only HR4.out.row (Only.of_below (F := fun _ => False) hal) (fun _ _ h => h)) (fun j u hu => cell_at0 W4 _ _ j u (by
            show (tokCells ⟨k', P, n, t⟩).toArray[j]? = some u
            rw [List.getElem?_toArray]
            exact hu)) (by omega) (by have := hal.size; have := HR4.out.size; omega)
          have HR9 : Hid (RW w W9 s nv (L ++ [⟨k', P, n, t⟩])) := Lib.hid (HR4.out.grow ((hal.mono HR4.out.size).trans hb9) hown)
          have HRn := Lib.hid hr
          clear hal hr hown hb9
          rw [hs4, hW4] at HRn
          clear ha1 hb4 hW4 hs4
          go_wp2_with (at_builtin; refine wpList_append_run rfl (.tmp 125) (.tmp 127) 29 29 rfl rfl rfl HRn.out ?_)
          go_roundw
          case rel => exact ⟨k, L ++ [⟨k', P, n, t⟩], hks, by rw [List.length_append]; show L.length + 1 ≤ k; have := HKK.out; omega, rfl, HN, HR9⟩
          case measure => have := HKK.out; simp [intOf]; omega
      · have hef : isEnd d = false := by simpa using he
        rw [hef] at HEn
        have HN : Hid (k + 1 + wordLen ((bytesOf s).drop (k + 1)) = i + len) := Lib.hid (by rw [← HK.out, HIn.out hef]; omega)
        clear he hef HIn HOut
        go_wp2_with fail
        refine HEn.out.mono ?_
        rintro e w2 ⟨rfl, rfl⟩
        go_wp2_with fail
        go_round
        case rel => exact ⟨k + 1, by omega, by omega, by go_num, HN⟩
        case measure => simp [intOf]; omega
    · have k1 : ¬ (k : Int) < (s.size : Int) := by omega
      have hkk : k = i + len := by have := HK.out; rw [wordLen_out (bytesOf s) k (.inl (by rw [HBs.out]; omega))] at this; omega
      have HKK := Lib.hid hkk
      clear hkk
      have ik : (i : Int) ≤ (k : Int) := by omega
      have ks : (k : Int) ≤ (s.size : Int) := by omega
      have hex : s.extract i k = bstr (((bytesOf s).drop i).take len) := by rw [extract_bstr s i k hik, HKK.out]; congr 2; omega
      have hsub : (bstr (((bytesOf s).drop i).take len)).size = len := by rw [size_bstr, List.length_take, List.length_drop, HBs.out]; have := HKK.out; omega
      have hki := HKK.out
      generalize bstr (((bytesOf s).drop i).take len) = sub at *
      have HWd := Lib.hid (refWord_any sub (by omega) (by omega) wc)
      rw [← word_order sub (by omega)] at HWd
      generalize wordS sub = wr0 at *
      clear hki hsub
      go_wp2_with fail
      refine HWd.out.mono ?_
      clear HWd
      rintro e w3 ⟨he, hb3⟩
      have HR3 := Lib.hid (HR1.out.step hb3)
      have hablt := heap_lt HA.out
      have HA3 := Lib.hid ((hb3.block ab hablt).trans HA.out)
      have hb3s := hb3.size
      clear hb3
      cases wr0 with
      | none =>
        have he2 : e = .returned (.tuple #[.agg #[.int .i64 0, .int .i64 0, .int .i64 0, .int .i64 0, .string ⟨#[]⟩], .bool false]) := he
        subst he2
        clear he
        have HBad : Hid (scanS s = .bad P) := Lib.hid (by
          have := HSc.out.bad hlt HBz.out (k := 0) HTW.out
          rw [Nat.add_zero, ← HP.out] at this
          exact this)
        obtain ⟨W4, hW4⟩ : ∃ W4, W4 = w3.alloc (.cells #[.int .i64 0, .int .i64 0, .int .i64 0, .int .i64 0, .string ⟨#[]⟩] 38) := ⟨_, rfl⟩
        have hb4 : Below w3.heap.size w3 W4 := by rw [hW4]; exact (Below.refl _ _).alloc (Nat.le_refl _) _
        have HR4 := Lib.hid (HR3.out.step hb4)
        have HA4 := Lib.hid ((hb4.block ab (heap_lt HA3.out)).trans HA3.out)
        obtain ⟨y0, y1, f0, f1⟩ := HR4.out.res_cells
        have a0 := cell_of_row W4 ab 0 _ _ (0, 0) HA4.out
        have a1 := cell_of_row W4 ab 1 _ _ (0, 0) HA4.out
        obtain ⟨WF, hWF, e0, e1, hpost⟩ := bad_post HR4.out HBad.out
        have HWF := Lib.hid hWF
        have HPost := Lib.hid hpost
        have HW4 := Lib.hid hW4
        clear hb4 hW4 hWF hpost
        go_upto_region 30 with fail
        rw [← HW4.out]
        go_region
        all_goals (
          go_wp2_with fail
          rw [← HWF.out]
          refine bodyPost_ret (v := .tuple #[.slice none 0 0, .agg #[.int .i64 (P.1 : Int), .int .i64 (P.2 : Int)], .int .i64 10]) (by simp [results, Try.results11, go_sem, e0, e1]) rfl HPost.out)
      | some x =>
        obtain ⟨k', n, t⟩ := x
        have he2 : e = .returned (.tuple #[.agg #[.int .i64 k', .int .i64 0, .int .i64 0, .int .i64 n, .string t], .bool true]) := he
        subst he2
        clear he
        have HN := Lib.hid (HSc.out.tok hlt HBz.out HTW.out)
        rw [← HP.out, ← HKK.out] at HN
        have ha1 : Below w3.heap.size w3 (w3.alloc (.cells #[.int .i64 k', .int .i64 0, .int .i64 0, .int .i64 n, .string t] 38)) := (Below.refl _ _).alloc (Nat.le_refl _) _
        have a0 := cell_of_row _ ab 0 _ _ (0, 0) ((ha1.block ab (heap_lt HA3.out)).trans HA3.out)
        have a1 := cell_of_row _ ab 1 _ _ (0, 0) ((ha1.block ab (heap_lt HA3.out)).trans HA3.out)
        obtain ⟨W4, hW4⟩ : ∃ W4, W4 = w3.alloc (.cells #[.int .i64 k', .int .i64 (P.1 : Int), .int .i64 (P.2 : Int), .int .i64 n, .string t] 38) := ⟨_, rfl⟩
        have hb4 : Below w3.heap.size w3 W4 := by rw [hW4]; exact (Below.refl _ _).alloc (Nat.le_refl _) _
        have hs4 : W4.heap.size = w3.heap.size + 1 := by rw [hW4]; exact size_alloc' w3 _
        have HR4 := Lib.hid (HR3.out.step hb4)
        have hal : Below W4.heap.size W4 (W4.alloc (.cells #[.int .i64 k', .int .i64 (P.1 : Int), .int .i64 (P.2 : Int), .int .i64 n, .string t] 38)) := (Below.refl _ _).alloc (Nat.le_refl _) _
        obtain ⟨nv, W9, hr, hown, hb9⟩ := run_snoc_tokR (W4.alloc (.cells #[.int .i64 k', .int .i64 (P.1 : Int), .int .i64 (P.2 : Int), .int .i64 n, .string t] 38)) 29 (w.heap.size + 3) W4.heap.size (.slice va L.length vc) L ⟨k', P, n, t⟩ (own_only HR4.out.row (Only.of_below (F := fun _ => False) hal) (fun _ _ h => h)) (fun j u hu => cell_at0 W4 _ _ j u (by
          show (tokCells ⟨k', P, n, t⟩).toArray[j]? = some u
          rw [List.getElem?_toArray]
          exact hu)) (by omega) (by have := hal.size; have := HR4.out.size; omega)
        have HR9 : Hid (RW w W9 s nv (L ++ [⟨k', P, n, t⟩])) := Lib.hid (HR4.out.grow ((hal.mono HR4.out.size).trans hb9) hown)
        have HRn := Lib.hid hr
        clear hal hr hown hb9
        rw [hs4, hW4] at HRn
        clear ha1 hb4 hW4 hs4
        go_wp2_with (at_builtin; refine wpList_append_run rfl (.tmp 125) (.tmp 127) 29 29 rfl rfl rfl HRn.out ?_)
        go_roundw
        case rel => exact ⟨k, L ++ [⟨k', P, n, t⟩], hks, by rw [List.length_append]; show L.length + 1 ≤ k; have := HKK.out; omega, rfl, HN, HR9⟩
        case measure => have := HKK.out; simp [intOf]; omega
set_option maxHeartbeats 40000000 in
theorem refScan_any_FIN (s : ByteArray) (hs : s.size ≤ 65000) (w : World) : (refScan_any_split s hs w).2.2.2.2.2.2.1 := by
  unfold refScan_any_split
  intro i0 W1 hmk1 W2 HL0 HW2 HE hE q_1 h1 h6 q_2 u29 u30 u31 u32 u33 u34 u35 u36 u37 u38 u39 u40 u41 u42 u43 u44 u45 u46 u47 u48 u49 u50 q_3 q_4 HR0 q_5 q_6 q_7 q_8 q_9 wr u2 u4 u10 u11 u12 u13 u14 u15 u16 u17 u18 u19 u51 u52 u53 u54 u55 u56 u57 u58 u59 u60 u61 u62 u63 u64 u65 u66 u67 u68 u69 u70 u71 u72 u73 u74 u75 u76 u77 u78 u79 u80 u81 u82 u83 u84 u85 u86 u87 u88 u89 u90 u91 u92 u93 u94 u95 u96 u97 u98 u99 u100 u101 u102 u103 u104 u105 u106 u107 u108 u109 u110 u111 u112 u113 u114 u115 u116 u117 u118 u119 u120 u121 u122 u123 u124 u125 u126 u127 u128 u129 u130 u131 u132 u133 u134 u135 u136 u137 u138 u139 u140 u141 u142 u143 u144 u145 u146 u147 u148 u149 u150 u151 u152 u153 u154 u155 u156 u157 u158 u159 u160 u161 u162 u163 u164 u165 u166 u167 u168 u169 u170 u171 u172 u173 u174 u175 u176 u177 u178 u179 u180 u181 u182 u183 u184 u185 u186 u187 u188 u189 u190 u191 u192 u193 u194 u195 u196 u197 u198 u199 u200 u201 u202 u203 u204 u205 u206 u207 u208 u209 u210 u211 u212 u213 u214 u215 u216 u217 u218 u219 u220 u221 u222 u223 u224 u225 u226 u227 u228 u229 u230 u231 u232 u233 u234 u235 u236 u237 u238 u239 u240 u241 u242 u243 u244 u245 u246 u247 u248 u249 u250 u251 u252 u253 u254 u255 u256 u257 i L hi hLi HSc va vc HR hlt
  obtain rfl : i = s.size := by omega
  have hfin := HSc.out.done
  have y0 := cell_of_row wr w.heap.size 0 _ _ (0, 0) HR.out.res
  have y1 := cell_of_row wr w.heap.size 1 _ _ (0, 0) HR.out.res
  have f0 := frozen_of_row wr w.heap.size 0 _ _ HR.out.res
  have f1 := frozen_of_row wr w.heap.size 1 _ _ HR.out.res
  have HF := Lib.hid hfin
  clear hfin HSc
  go_wp2_with fail
  have hh : ((wr.setCell ⟨w.heap.size, 0, none⟩ (.int .i64 0)).setCell ⟨w.heap.size, 1, none⟩ (.int .i64 0)).heap[w.heap.size]? = some (.cells #[.int .i64 0, .int .i64 0] 25) := by
    rw [set_put _ _ _ _ (set_put _ _ _ _ HR.out.res)]; rfl
  have hown := ownsRow_setCell_below (ownsRow_setCell_below HR.out.row (a := ⟨w.heap.size, 0, none⟩) (show w.heap.size < w.heap.size + 3 by omega) (.int .i64 0)) (a := ⟨w.heap.size, 1, none⟩) (show w.heap.size < w.heap.size + 3 by omega) (.int .i64 0)
  have hbd : Below w.heap.size w ((wr.setCell ⟨w.heap.size, 0, none⟩ (.int .i64 0)).setCell ⟨w.heap.size, 1, none⟩ (.int .i64 0)) := (HR.out.below.setCell (Nat.le_refl _) _).setCell (Nat.le_refl _) _
  generalize ((wr.setCell ⟨w.heap.size, 0, none⟩ (.int .i64 0)).setCell ⟨w.heap.size, 1, none⟩ (.int .i64 0)) = WF at *
  have e0 := cell_of_row WF w.heap.size 0 _ _ (0, 0) hh
  have e1 := cell_of_row WF w.heap.size 1 _ _ (0, 0) hh
  have hpost : RScanP w s (.returned (.tuple #[.slice va L.length vc, .agg #[.int .i64 0, .int .i64 0], .int .i64 0])) WF := by
    unfold RScanP
    rw [HF.out]
    exact ⟨⟨_, rfl, hown⟩, hbd⟩
  clear hh y0 y1 f0 f1
  refine bodyPost_ret (v := .tuple #[.slice va L.length vc, .agg #[.int .i64 0, .int .i64 0], .int .i64 0]) (by simp [results, Try.results11, go_sem, e0, e1]) rfl hpost
theorem refScan_any (s : ByteArray) (hs : s.size ≤ 65000) (w : World) :
    Calls Try.prog 11 #[.string s] w (RScanP w s) :=
  (refScan_any_split s hs w).2.2.2.2.2.2.2 (refScan_any_A s hs w) (refScan_any_K s hs w) (refScan_any_F s hs w) (refScan_any_C s hs w) (refScan_any_STR s hs w) (refScan_any_WORD s hs w) (refScan_any_FIN s hs w)
end Go.Proofs.Ytghddknhoiaboaa
