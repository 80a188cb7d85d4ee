/-
  The law NumDigits: the contracts of counts, areDigits, Read.
-/
import Derived.Test.YtghddknhoiaboaaDigA
import Derived.Test.YtghddknhoiaboaaShelf
import Derived.Lib.Hide
import Derived.OpenShut
import Derived.BigQuiet
import Derived.Deep.DeepCutAuto
import Derived.Deep.CutBlock
namespace Go.Proofs.Ytghddknhoiaboaa
set_option maxRecDepth 100000
open Go.ChangeShapes Go.WideShapes Go.ChangeAt Go.RowKit
set_option linter.unusedVariables false

/-- the integer of 63 bits that differs from n by a multiple of 2^63 -/
def w63 (n : Int) : Int := (n + 4611686018427387904) % 9223372036854775808 - 4611686018427387904
theorem wrap_shift (n : Int) : wrap64 (n * 2) / 2 = w63 n := by
  unfold wrap64 w63; omega
theorem w63_bd (n : Int) : -4611686018427387904 ≤ w63 n ∧ w63 n ≤ 4611686018427387903 := by unfold w63; omega
theorem w63_wrap (n : Int) : w63 (wrap64 n) = w63 n := by unfold wrap64 w63; omega
theorem w63_w63 (n : Int) : w63 (w63 n) = w63 n := by unfold w63; omega
theorem ret_int {k : IntKind} {a b : Int} (h : a = b) : Ending.returned (.int k a) = .returned (.int k b) := by rw [h]
theorem ret_bool {a b : Bool} (h : a = b) : Ending.returned (.bool a) = .returned (.bool b) := by rw [h]
def divQ (a b : Int) : Int := w63 ((w63 a).tdiv (w63 b))
theorem tdiv_bd (a b : Int) : -4611686018427387904 ≤ (w63 a).tdiv (w63 b) ∧ (w63 a).tdiv (w63 b) ≤ 4611686018427387904 := by
  have h := w63_bd a
  have h2 : ((w63 a).tdiv (w63 b)).natAbs ≤ (w63 a).natAbs := by rw [Int.natAbs_tdiv]; exact Nat.div_le_self _ _
  omega
theorem wrap_any (n : Int) (w : World) :
    Calls Try.prog 63 #[.int .i64 n] w fun e w' => e = .returned (.int .i64 (w63 n)) ∧ w = w' := by
  go_enter Try.func63, Try.ntmps63
  go_wp2
  go_ret
  exact ⟨ret_int (wrap_shift n), rfl⟩
theorem bytesOf_getD (s : ByteArray) (k : Nat) (hk : k < s.size) : (bytesOf s).getD k 0 = s[k].toNat := by
  have h : k < (bytesOf s).length := by rw [bytesOf_length]; exact hk
  have e : (bytesOf s).getD k 0 = (bytesOf s)[k] := by simp [List.getD, List.getElem?_eq_getElem h]
  rw [e]
  simp only [bytesOf, List.getElem_map, Array.getElem_toList]
  rfl
theorem getD_lt (s : ByteArray) (k : Nat) (hk : k < s.size) : (bytesOf s).getD k 0 < 256 := by
  rw [bytesOf_getD s k hk]
  exact s[k].toNat_lt
theorem idx_str (s : ByteArray) (k : Nat) (hk : k < s.size) (hs : s.size ≤ 9223372036854775807) (W : World) :
    (Instr.index 9 (.string s) (.int .i64 (k : Int))).run Try.prog W = .ok (.int .u8 (((bytesOf s).getD k 0 : Nat) : Int)) W := by
  rw [bytesOf_getD s k hk]
  go_simp
theorem empty_of (s : ByteArray) (h : s.size = 0) : s = ⟨#[]⟩ := ByteArray.ext (Array.eq_empty_of_size_eq_zero h)
theorem empty_ne (s : ByteArray) (h : 0 < s.size) : (s.toList == (⟨#[]⟩ : ByteArray).toList) = false := by
  rw [beq_eq_false_iff_ne, ByteArray.toList_eq, ByteArray.toList_eq]
  intro e
  have h2 : s.data.toList.length = 0 := by rw [e]; rfl
  rw [Array.length_toList] at h2
  have : s.size = s.data.size := rfl
  omega
def isDs (l : List Nat) : Bool := !l.isEmpty && l.all isD
theorem all_getD (l : List Nat) (h : ∀ j, j < l.length → isD (l.getD j 0) = true) : l.all isD = true := by
  rw [List.all_eq_true]
  intro c hc
  obtain ⟨j, hj, rfl⟩ := List.mem_iff_getElem.1 hc
  have := h j hj
  rw [List.getD_eq_getElem?_getD, List.getElem?_eq_getElem hj] at this
  exact this
theorem not_all (l : List Nat) (j : Nat) (hj : j < l.length) (h : isD (l.getD j 0) = false) : l.all isD = false := by
  cases ha : l.all isD with
  | false => rfl
  | true =>
    rw [List.all_eq_true] at ha
    have := ha _ (List.getElem_mem hj)
    rw [List.getD_eq_getElem?_getD, List.getElem?_eq_getElem hj] at h
    simp only [Option.getD_some] at h
    rw [h] at this
    cases this
theorem areDigits_any (s : ByteArray) (w : World) (hs : s.size ≤ 9223372036854775807) :
    Calls Try.prog 49 #[.string s] w fun e w' => e = .returned (.bool (isDs (bytesOf s))) ∧ w = w' := by
  have HS := Lib.hid hs
  go_enter Try.func49, Try.ntmps49
  go_wp2_with fail
  go_loop [6] (fun i => ∃ k : Nat, k ≤ s.size ∧ i = .int .i64 k ∧ Hid (∀ j, j < k → isD ((bytesOf s).getD j 0) = true)) (fun i => s.size - (intOf i).toNat)
  case atStart => exact ⟨0, Nat.zero_le _, rfl, Lib.hid (fun j hj => by omega)⟩
  case round =>
    obtain ⟨k, hk, rfl, HI⟩ := hrel
    by_cases hlt : k < s.size
    · have hix := idx_str s k hlt hs
      have hc := getD_lt s k hlt
      have HN := Lib.hid (not_all (bytesOf s) k (by rw [bytesOf_length]; exact hlt))
      have HST : Hid (isD ((bytesOf s).getD k 0) = true → ∀ j, j < k + 1 → isD ((bytesOf s).getD j 0) = true) := Lib.hid (fun h j hj => by
        by_cases g : j = k
        · subst g; exact h
        · exact HI.out j (by omega))
      generalize (bytesOf s).getD k 0 = c at *
      by_cases h1 : (c : Int) < 48
      · have HF := Lib.hid (HN.out (by unfold isD; simp; omega))
        clear HN HST
        go_wp2_with fail
        go_ret
        exact ⟨ret_bool (by unfold isDs; rw [HF.out, Bool.and_false]), rfl⟩
      · by_cases h2 : (c : Int) > 57
        · have HF := Lib.hid (HN.out (by unfold isD; simp; omega))
          clear HN HST
          go_wp2_with fail
          go_ret
          exact ⟨ret_bool (by unfold isDs; rw [HF.out, Bool.and_false]), rfl⟩
        · have HF := Lib.hid (HST.out (by unfold isD; simp; omega))
          clear HN HST
          go_wp2_with fail
          go_round
          case rel => exact ⟨k + 1, by omega, by go_num, HF⟩
          case measure => simp [intOf]; omega
    · have HA := Lib.hid (all_getD (bytesOf s) (fun j hj => HI.out j (by rw [bytesOf_length] at hj; omega)))
      by_cases h0 : s.size = 0
      · obtain rfl := empty_of s h0
        go_wp2_with fail
        go_ret
        exact ⟨rfl, rfl⟩
      · have hne := empty_ne s (by omega)
        have HE : Hid ((bytesOf s).isEmpty = false) := Lib.hid (by
          cases hb : bytesOf s with
          | nil => have := bytesOf_length s; rw [hb] at this; simp at this; omega
          | cons a l => rfl)
        have hE2 : s.toList.isEmpty = false := by
          have := hne
          cases hl : s.toList with
          | nil =>
            have h9 : s.size = 0 := by
              rw [ByteArray.toList_eq] at hl
              have h8 : s.data.toList.length = 0 := by rw [hl]; rfl
              rw [Array.length_toList] at h8
              exact h8
            omega
          | cons a l => rfl
        go_wp2_with fail
        go_ret
        exact ⟨ret_bool (by unfold isDs; rw [HA.out, HE.out]; first | rfl | (rw [hE2]; rfl)), rfl⟩

theorem cut_minus (s : ByteArray) : readS (bytesOf s) = readD (Lib.hasPrefix s.data.toList [45]) (bytesOf ⟨(Lib.trimPrefix s.data.toList [45]).toArray⟩) ∧ (⟨(Lib.trimPrefix s.data.toList [45]).toArray⟩ : ByteArray).size ≤ s.size := by
  unfold readS Lib.trimPrefix Lib.hasPrefix bytesOf
  cases hl : s.data.toList with
  | nil =>
    refine ⟨by simp, ?_⟩
    simp
    exact Nat.zero_le _
  | cons c l =>
    have hsz : s.size = l.length + 1 := by
      have : s.data.toList.length = l.length + 1 := by rw [hl]; rfl
      rw [Array.length_toList] at this
      exact this
    by_cases h : c = 45
    · subst h
      refine ⟨by simp, ?_⟩
      simp
      show l.length ≤ s.size
      omega
    · have h2 : ¬ c.toNat = 45 := fun e => h (UInt8.toNat_inj.1 e)
      have h3 : ¬ (45 : UInt8) = c := fun e => h e.symm
      have h4 : [(45 : UInt8)].isPrefixOf (c :: l) = false := by show ((45 : UInt8) == c && ([] : List UInt8).isPrefixOf l) = false; rw [beq_eq_false_iff_ne.2 h3]; rfl
      refine ⟨by rw [h4]; simp [h2], ?_⟩
      rw [h4]
      simp
      show l.length + 1 ≤ s.size
      omega
theorem isDs_true {l : List Nat} (h : isDs l = true) : ¬ (l = [] ∨ l.all isD = false) ∧ ∀ j, j < l.length → 48 ≤ l.getD j 0 ∧ l.getD j 0 ≤ 57 := by
  unfold isDs at h
  rw [Bool.and_eq_true] at h
  refine ⟨fun hh => ?_, fun j hj => ?_⟩
  · rcases hh with hh | hh
    · rw [hh] at h; simp at h
    · rw [hh] at h; simp at h
  · have := List.all_eq_true.1 h.2 _ (List.getElem_mem hj)
    rw [List.getD_eq_getElem?_getD, List.getElem?_eq_getElem hj]
    unfold isD at this
    simpa using this
theorem isDs_false {l : List Nat} (h : isDs l = false) : l = [] ∨ l.all isD = false := by
  unfold isDs at h
  cases l with
  | nil => exact .inl rfl
  | cons a l => exact .inr (by simpa using h)
def mostOf (m : Bool) : Nat := if m = true then 4611686018427387904 else 4611686018427387903
theorem readD_bad {m : Bool} {l : List Nat} (h : isDs l = false) : readD m l = (0, 2) := by unfold readD; rw [if_pos (isDs_false h)]
theorem readD_big {m : Bool} {l : List Nat} (h : isDs l = true) (hv : mostOf m < val l) : readD m l = (0, 4) := by
  unfold readD
  rw [if_neg (isDs_true h).1]
  unfold mostOf at hv
  rw [if_pos hv]
theorem readD_ok {m : Bool} {l : List Nat} (h : isDs l = true) (hv : val l ≤ mostOf m) : readD m l = (if m = true then -(val l : Int) else (val l : Int), 0) := by
  unfold readD
  rw [if_neg (isDs_true h).1]
  unfold mostOf at hv
  rw [if_neg (by omega)]

set_option maxRecDepth 100000 in
theorem read_any (s : ByteArray) (w : World) (hs : s.size ≤ 9223372036854775807) :
    Calls Try.prog 40 #[.string s] w fun e w' => e = .returned (.tuple #[.int .i64 (readS (bytesOf s)).1, .int .i64 (readS (bytesOf s)).2]) ∧ w = w' := by
  obtain ⟨hcut, hle⟩ := cut_minus s
  have HCP := Lib.hid (strings_CutPrefix s ⟨#[45]⟩)
  have hdd : ((⟨#[45]⟩ : ByteArray)).data.toList = [45] := rfl
  rw [hdd] at HCP
  rw [hcut]
  generalize Lib.hasPrefix s.data.toList [45] = m at *
  generalize (⟨(Lib.trimPrefix s.data.toList [45]).toArray⟩ : ByteArray) = D at *
  have hD : D.size ≤ 9223372036854775807 := by omega
  have HAD := Lib.hid (areDigits_any D)
  clear hcut hle hdd
  cases hds : isDs (bytesOf D) with
  | false =>
    rw [readD_bad hds]
    rw [hds] at HAD
    go_enter Try.func40, Try.ntmps40
    go_wp2_with (first
      | (go_at_call 48; refine (HCP.out w).mono ?_; rintro e w' ⟨rfl, rfl⟩)
      | (go_at_call 49; refine (HAD.out _ hD).mono ?_; rintro e w' ⟨rfl, rfl⟩))
    go_ret2
    exact ⟨rfl, rfl⟩
  | true =>
    rw [hds] at HAD
    have HB := Lib.hid (readD_big (m := m) hds)
    have HO := Lib.hid (readD_ok (m := m) hds)
    have HDG : Hid (∀ j, j < D.size → ∃ x, (bytesOf D).getD j 0 = 48 + x ∧ x ≤ 9) := Lib.hid (fun j hj => by
      have h := (isDs_true hds).2 j (by rw [bytesOf_length]; exact hj)
      exact ⟨(bytesOf D).getD j 0 - 48, by omega, by omega⟩)
    clear hds
    go_enter Try.func40, Try.ntmps40
    cases m
    · go_wp2_with (first
        | (go_at_call 48; refine (HCP.out w).mono ?_; rintro e w' ⟨rfl, rfl⟩)
        | (go_at_call 49; refine (HAD.out _ hD).mono ?_; rintro e w' ⟨rfl, rfl⟩))
      obtain ⟨M, hM⟩ : ∃ M : Int, M = 4611686018427387903 := ⟨_, rfl⟩
      have hM1 : 4611686018427387903 ≤ M := by omega
      have hM2 : M ≤ 4611686018427387904 := by omega
      have HM := Lib.hid hM
      rw [← hM]
      clear hM
      go_loop [7, 21] (fun n i => ∃ k N : Nat, k ≤ D.size ∧ i = .int .i64 k ∧ n = .int .i64 N ∧ (N : Int) ≤ M ∧ Hid (N = val ((bytesOf D).take k))) (fun _ i => D.size - (intOf i).toNat)
      case atStart => exact ⟨0, 0, Nat.zero_le _, rfl, rfl, by omega, Lib.hid rfl⟩
      case round =>
        obtain ⟨k, N, hk, rfl, rfl, hN, HN⟩ := hrel
        by_cases hlt : k < D.size
        · obtain ⟨x, hx, hx9⟩ := HDG.out k hlt
          have hix := idx_str D k hlt hD
          have HV := Lib.hid (val_step (bytesOf D) k (by rw [bytesOf_length]; exact hlt))
          have HL := Lib.hid (val_take_mono (bytesOf D) k (by rw [bytesOf_length]; exact hlt))
          rw [hx] at hix HV HL
          have e48 : ((48 + x : Nat) : Int) = 48 + (x : Int) := by omega
          rw [e48] at hix
          clear hx e48
          obtain ⟨Q, hQ⟩ : ∃ Q : Int, Q = (M - (x : Int)).tdiv 10 := ⟨_, rfl⟩
          have hQ2 : 10 * Q ≤ M - x ∧ M - x < 10 * Q + 10 := by
            rw [Int.tdiv_eq_ediv_of_nonneg (by omega)] at hQ
            omega
          have hQ' := hQ.symm
          clear hQ
          by_cases hb : Q < (N : Int)
          · have HR := Lib.hid (HB.out (by have h1 := HL.out; have h2 := HN.out; have h3 := HM.out; unfold mostOf; simp; omega))
            go_wp2_with fail
            go_ret2
            exact ⟨by rw [HR.out]; rfl, rfl⟩
          · have HR : Hid (10 * N + x = val ((bytesOf D).take (k + 1))) := Lib.hid (by rw [HV.out, ← HN.out]; omega)
            go_wp2_with fail
            go_round
            case rel => exact ⟨k + 1, 10 * N + x, by omega, by go_num, by go_num, by omega, HR⟩
            case measure => simp [intOf]; omega
        · have HE : Hid (N = val (bytesOf D)) := Lib.hid (by rw [HN.out, List.take_of_length_le (by rw [bytesOf_length]; omega)])
          have HR := Lib.hid (HO.out (by have h1 := HE.out; have h3 := HM.out; unfold mostOf; simp; omega))
          go_wp2_with fail
          go_ret2
          exact ⟨by rw [HR.out, ← HE.out]; rfl, rfl⟩
    · go_wp2_with (first
        | (go_at_call 48; refine (HCP.out w).mono ?_; rintro e w' ⟨rfl, rfl⟩)
        | (go_at_call 49; refine (HAD.out _ hD).mono ?_; rintro e w' ⟨rfl, rfl⟩))
      obtain ⟨M, hM⟩ : ∃ M : Int, M = 4611686018427387904 := ⟨_, rfl⟩
      have hM1 : 4611686018427387903 ≤ M := by omega
      have hM2 : M ≤ 4611686018427387904 := by omega
      have HM := Lib.hid hM
      rw [← hM]
      clear hM
      go_loop [7, 21] (fun n i => ∃ k N : Nat, k ≤ D.size ∧ i = .int .i64 k ∧ n = .int .i64 N ∧ (N : Int) ≤ M ∧ Hid (N = val ((bytesOf D).take k))) (fun _ i => D.size - (intOf i).toNat)
      case atStart => exact ⟨0, 0, Nat.zero_le _, rfl, rfl, by omega, Lib.hid rfl⟩
      case round =>
        obtain ⟨k, N, hk, rfl, rfl, hN, HN⟩ := hrel
        by_cases hlt : k < D.size
        · obtain ⟨x, hx, hx9⟩ := HDG.out k hlt
          have hix := idx_str D k hlt hD
          have HV := Lib.hid (val_step (bytesOf D) k (by rw [bytesOf_length]; exact hlt))
          have HL := Lib.hid (val_take_mono (bytesOf D) k (by rw [bytesOf_length]; exact hlt))
          rw [hx] at hix HV HL
          have e48 : ((48 + x : Nat) : Int) = 48 + (x : Int) := by omega
          rw [e48] at hix
          clear hx e48
          obtain ⟨Q, hQ⟩ : ∃ Q : Int, Q = (M - (x : Int)).tdiv 10 := ⟨_, rfl⟩
          have hQ2 : 10 * Q ≤ M - x ∧ M - x < 10 * Q + 10 := by
            rw [Int.tdiv_eq_ediv_of_nonneg (by omega)] at hQ
            omega
          have hQ' := hQ.symm
          clear hQ
          by_cases hb : Q < (N : Int)
          · have HR := Lib.hid (HB.out (by have h1 := HL.out; have h2 := HN.out; have h3 := HM.out; unfold mostOf; simp; omega))
            go_wp2_with fail
            go_ret2
            exact ⟨by rw [HR.out]; rfl, rfl⟩
          · have HR : Hid (10 * N + x = val ((bytesOf D).take (k + 1))) := Lib.hid (by rw [HV.out, ← HN.out]; omega)
            go_wp2_with fail
            go_round
            case rel => exact ⟨k + 1, 10 * N + x, by omega, by go_num, by go_num, by omega, HR⟩
            case measure => simp [intOf]; omega
        · have HE : Hid (N = val (bytesOf D)) := Lib.hid (by rw [HN.out, List.take_of_length_le (by rw [bytesOf_length]; omega)])
          have HR := Lib.hid (HO.out (by have h1 := HE.out; have h3 := HM.out; unfold mostOf; simp; omega))
          go_wp2_with fail
          go_ret2
          exact ⟨by rw [HR.out, ← HE.out]; rfl, rfl⟩
end Go.Proofs.Ytghddknhoiaboaa
