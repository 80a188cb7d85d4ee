/-
  lex: constructors and names.
-/
import Derived.Test.YtghddknhoiaboaaLexG
namespace Go.Proofs.Ytghddknhoiaboaa
open Go.ChangeShapes Go.WideShapes Go.ChangeAt Go.RowKit
set_option linter.unusedVariables false
set_option maxRecDepth 100000

theorem allP_getD (p : Nat → Bool) (l : List Nat) (h : ∀ j, j < l.length → p (l.getD j 0) = true) : l.all p = true := by
  rw [List.all_eq_true]
  intro c hc
  obtain ⟨j, hj, rfl⟩ := List.mem_iff_getElem.1 hc
  have := h j hj
  rw [List.getD_eq_getElem?_getD, List.getElem?_eq_getElem hj] at this
  exact this
theorem not_allP (p : Nat → Bool) (l : List Nat) (j : Nat) (hj : j < l.length) (h : p (l.getD j 0) = false) : l.all p = false := by
  cases ha : l.all p with
  | false => rfl
  | true =>
    rw [List.all_eq_true] at ha
    have := ha _ (List.getElem_mem hj)
    rw [List.getD_eq_getElem?_getD, List.getElem?_eq_getElem hj] at h
    simp only [Option.getD_some] at h
    rw [h] at this
    cases this
def conC (c : Nat) : Bool := isLet c || isDg c
def nameC (c : Nat) : Bool := isLet c || isDg c || isSgn c
def isConS (l : List Nat) : Bool := isUp (l.getD 0 0) && l.all conC
def isNameS (l : List Nat) : Bool := !(isUp (l.getD 0 0) || isDg (l.getD 0 0)) && l.all nameC
set_option maxHeartbeats 1000000 in
theorem isCon_any (s : ByteArray) (h0 : 0 < s.size) (hs : s.size ≤ 70000) (w : World) :
    Calls Try.prog 43 #[.string s] w fun e w' => e = .returned (.bool (isConS (bytesOf s))) ∧ w = w' := by
  have HU := Lib.hid (isUpper_any ((bytesOf s).getD 0 0) w)
  have hS : isConS (bytesOf s) = (isUp ((bytesOf s).getD 0 0) && (bytesOf s).all conC) := rfl
  obtain ⟨c0, hc0⟩ : ∃ c0, c0 = (bytesOf s).getD 0 0 := ⟨_, rfl⟩
  rw [← hc0] at hS HU
  have hix0 : s[0].toNat = c0 := by rw [hc0]; exact (bytesOf_getD s 0 h0).symm
  by_cases hu : isUp c0 = true
  · rw [hu] at HU hS
    rw [Bool.true_and] at hS
    rw [hS]
    clear hc0 hu hS
    go_enter Try.func43, Try.ntmps43
    go_wp2_with fail
    refine HU.out.mono ?_
    rintro e w1 ⟨rfl, rfl⟩
    go_wp2_with fail
    clear hix0 HU
    go_loop [10] (fun i => ∃ k : Nat, k ≤ s.size ∧ i = .int .i64 k ∧ Hid (∀ j, j < k → conC ((bytesOf s).getD j 0) = true)) (fun i => s.size - (intOf i).toNat)
    case atStart => exact ⟨0, Nat.zero_le _, rfl, Lib.hid (fun j hj => by omega)⟩
    case round =>
      obtain ⟨k, hk, rfl, HI⟩ := hrel
      by_cases hlt : k < s.size
      · have hix := idx_str s k hlt (by omega)
        have HN := Lib.hid (not_allP conC (bytesOf s) k (by rw [bytesOf_length]; exact hlt))
        have HST : Hid (conC ((bytesOf s).getD k 0) = true → ∀ j, j < k + 1 → conC ((bytesOf s).getD j 0) = true) := Lib.hid (fun h j hj => by
          by_cases g : j = k
          · subst g; exact h
          · exact HI.out j (by omega))
        have HL := Lib.hid (isLetter_any ((bytesOf s).getD k 0) w)
        have HD := Lib.hid (isDigit_any ((bytesOf s).getD k 0) w)
        generalize (bytesOf s).getD k 0 = c at *
        by_cases h1 : isLet c = true
        · have HF := Lib.hid (HST.out (by unfold conC; rw [h1]; rfl))
          rw [h1] at HL
          clear HN HST h1
          go_wp2_with fail
          refine HL.out.mono ?_
          rintro e w2 ⟨rfl, rfl⟩
          go_wp2_with fail
          go_round
          case rel => exact ⟨k + 1, by omega, by go_num, HF⟩
          case measure => simp [intOf]; omega
        · have h1f : isLet c = false := by simpa using h1
          rw [h1f] at HL
          by_cases h2 : isDg c = true
          · have HF := Lib.hid (HST.out (by unfold conC; rw [h1f, h2]; rfl))
            rw [h2] at HD
            clear HN HST h1 h1f h2
            go_wp2_with fail
            refine HL.out.mono ?_
            rintro e w2 ⟨rfl, rfl⟩
            go_wp2_with fail
            refine HD.out.mono ?_
            rintro e w2 ⟨rfl, rfl⟩
            go_wp2_with fail
            go_round
            case rel => exact ⟨k + 1, by omega, by go_num, HF⟩
            case measure => simp [intOf]; omega
          · have h2f : isDg c = false := by simpa using h2
            rw [h2f] at HD
            have HF := Lib.hid (HN.out (by unfold conC; rw [h1f, h2f]; rfl))
            clear HN HST h1 h1f h2 h2f
            go_wp2_with fail
            refine HL.out.mono ?_
            rintro e w2 ⟨rfl, rfl⟩
            go_wp2_with fail
            refine HD.out.mono ?_
            rintro e w2 ⟨rfl, rfl⟩
            go_wp2_with fail
            go_ret
            exact ⟨ret_bool (by rw [HF.out]), rfl⟩
      · have HA := Lib.hid (allP_getD conC (bytesOf s) (fun j hj => HI.out j (by rw [bytesOf_length] at hj; omega)))
        go_wp2_with fail
        go_ret
        exact ⟨ret_bool (by rw [HA.out]), rfl⟩
  · have huf : isUp c0 = false := by simpa using hu
    rw [huf] at HU hS
    rw [hS]
    clear hc0 hu huf hS
    go_enter Try.func43, Try.ntmps43
    go_wp2_with fail
    refine HU.out.mono ?_
    rintro e w1 ⟨rfl, rfl⟩
    go_wp2_with fail
    go_ret
    exact ⟨rfl, rfl⟩
set_option maxHeartbeats 2000000 in
theorem isName_any (s : ByteArray) (h0 : 0 < s.size) (hs : s.size ≤ 70000) (w : World) :
    Calls Try.prog 45 #[.string s] w fun e w' => e = .returned (.bool (isNameS (bytesOf s))) ∧ w = w' := by
  have HU := Lib.hid (isUpper_any ((bytesOf s).getD 0 0) w)
  have HD0 := Lib.hid (isDigit_any ((bytesOf s).getD 0 0) w)
  have hS : isNameS (bytesOf s) = (!(isUp ((bytesOf s).getD 0 0) || isDg ((bytesOf s).getD 0 0)) && (bytesOf s).all nameC) := rfl
  have h256 := byte_lt s
  obtain ⟨c0, hc0⟩ : ∃ c0, c0 = (bytesOf s).getD 0 0 := ⟨_, rfl⟩
  rw [← hc0] at hS HU HD0
  have hix0 : s[0].toNat = c0 := by rw [hc0]; exact (bytesOf_getD s 0 h0).symm
  by_cases hu : isUp c0 = true
  · rw [hu] at HU hS
    rw [hS]
    clear hc0 hu hS
    go_enter Try.func45, Try.ntmps45
    go_wp2_with fail
    refine HU.out.mono ?_
    rintro e w1 ⟨rfl, rfl⟩
    go_wp2_with fail
    go_ret
    exact ⟨rfl, rfl⟩
  · have huf : isUp c0 = false := by simpa using hu
    rw [huf] at HU hS
    by_cases hd : isDg c0 = true
    · rw [hd] at HD0 hS
      rw [hS]
      clear hc0 hu huf hS hd
      go_enter Try.func45, Try.ntmps45
      go_wp2_with fail
      refine HU.out.mono ?_
      rintro e w1 ⟨rfl, rfl⟩
      go_wp2_with fail
      refine HD0.out.mono ?_
      rintro e w1 ⟨rfl, rfl⟩
      go_wp2_with fail
      go_ret
      exact ⟨rfl, rfl⟩
    · have hdf : isDg c0 = false := by simpa using hd
      rw [hdf] at HD0 hS
      have hS2 : isNameS (bytesOf s) = (bytesOf s).all nameC := by rw [hS]; rfl
      rw [hS2]
      clear hc0 hu huf hS hS2 hd hdf
      go_enter Try.func45, Try.ntmps45
      go_wp2_with fail
      refine HU.out.mono ?_
      rintro e w1 ⟨rfl, rfl⟩
      go_wp2_with fail
      refine HD0.out.mono ?_
      rintro e w1 ⟨rfl, rfl⟩
      go_wp2_with fail
      clear hix0 HU HD0
      go_loop [14] (fun i => ∃ k : Nat, k ≤ s.size ∧ i = .int .i64 k ∧ Hid (∀ j, j < k → nameC ((bytesOf s).getD j 0) = true)) (fun i => s.size - (intOf i).toNat)
      case atStart => exact ⟨0, Nat.zero_le _, rfl, Lib.hid (fun j hj => by omega)⟩
      case round =>
        obtain ⟨k, hk, rfl, HI⟩ := hrel
        by_cases hlt : k < s.size
        · have hix := idx_str s k hlt (by omega)
          have HN := Lib.hid (not_allP nameC (bytesOf s) k (by rw [bytesOf_length]; exact hlt))
          have HST : Hid (nameC ((bytesOf s).getD k 0) = true → ∀ j, j < k + 1 → nameC ((bytesOf s).getD j 0) = true) := Lib.hid (fun h j hj => by
            by_cases g : j = k
            · subst g; exact h
            · exact HI.out j (by omega))
          have HL := Lib.hid (isLetter_any ((bytesOf s).getD k 0) w)
          have HD := Lib.hid (isDigit_any ((bytesOf s).getD k 0) w)
          have HSg := Lib.hid (isSign_any ((bytesOf s).getD k 0) (h256 k) w)
          clear h256
          generalize (bytesOf s).getD k 0 = c at *
          by_cases h1 : isLet c = true
          · have HF := Lib.hid (HST.out (by unfold nameC; rw [h1]; rfl))
            rw [h1] at HL
            clear HN HST h1
            go_wp2_with fail
            refine HL.out.mono ?_
            rintro e w2 ⟨rfl, rfl⟩
            go_wp2_with fail
            go_round
            case rel => exact ⟨k + 1, by omega, by go_num, HF⟩
            case measure => simp [intOf]; omega
          · have h1f : isLet c = false := by simpa using h1
            rw [h1f] at HL
            by_cases h2 : isDg c = true
            · have HF := Lib.hid (HST.out (by unfold nameC; rw [h1f, h2]; rfl))
              rw [h2] at HD
              clear HN HST h1 h1f h2
              go_wp2_with fail
              refine HL.out.mono ?_
              rintro e w2 ⟨rfl, rfl⟩
              go_wp2_with fail
              refine HD.out.mono ?_
              rintro e w2 ⟨rfl, rfl⟩
              go_wp2_with fail
              go_round
              case rel => exact ⟨k + 1, by omega, by go_num, HF⟩
              case measure => simp [intOf]; omega
            · have h2f : isDg c = false := by simpa using h2
              rw [h2f] at HD
              by_cases h3 : isSgn c = true
              · have HF := Lib.hid (HST.out (by unfold nameC; rw [h1f, h2f, h3]; rfl))
                rw [h3] at HSg
                clear HN HST h1 h1f h2 h2f h3
                go_wp2_with fail
                refine HL.out.mono ?_
                rintro e w2 ⟨rfl, rfl⟩
                go_wp2_with fail
                refine HD.out.mono ?_
                rintro e w2 ⟨rfl, rfl⟩
                go_wp2_with fail
                refine HSg.out.mono ?_
                rintro e w2 ⟨rfl, rfl⟩
                go_wp2_with fail
                go_round
                case rel => exact ⟨k + 1, by omega, by go_num, HF⟩
                case measure => simp [intOf]; omega
              · have h3f : isSgn c = false := by simpa using h3
                rw [h3f] at HSg
                have HF := Lib.hid (HN.out (by unfold nameC; rw [h1f, h2f, h3f]; rfl))
                clear HN HST h1 h1f h2 h2f h3 h3f
                go_wp2_with fail
                refine HL.out.mono ?_
                rintro e w2 ⟨rfl, rfl⟩
                go_wp2_with fail
                refine HD.out.mono ?_
                rintro e w2 ⟨rfl, rfl⟩
                go_wp2_with fail
                refine HSg.out.mono ?_
                rintro e w2 ⟨rfl, rfl⟩
                go_wp2_with fail
                go_ret
                exact ⟨ret_bool (by rw [HF.out]), rfl⟩
        · have HA := Lib.hid (allP_getD nameC (bytesOf s) (fun j hj => HI.out j (by rw [bytesOf_length] at hj; omega)))
          go_wp2_with fail
          go_ret
          exact ⟨ret_bool (by rw [HA.out]), rfl⟩
end Go.Proofs.Ytghddknhoiaboaa
