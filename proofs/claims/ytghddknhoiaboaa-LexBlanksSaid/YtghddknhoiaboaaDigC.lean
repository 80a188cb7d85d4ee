/-
  The law NumDigits: the contract of the document's Read.
-/
import Derived.Test.YtghddknhoiaboaaDigB
namespace Go.Proofs.Ytghddknhoiaboaa
set_option maxRecDepth 100000
open Go.ChangeShapes Go.WideShapes Go.ChangeAt Go.RowKit
set_option linter.unusedVariables false

/-- behind k digits: the number, or it is too big -/
def Inv (d : List Nat) (k : Nat) (N : Int) (g : Bool) : Prop := (∀ j, j < k → isD (d.getD j 0) = true) ∧ (g = true → 4611686018427387904 < val (d.take k)) ∧ (g = false → N = (val (d.take k) : Int) ∧ N ≤ 4611686018427387904)
theorem inv_start (d : List Nat) : Inv d 0 0 false := ⟨fun j hj => by omega, fun h => (nomatch h), fun _ => ⟨rfl, by decide⟩⟩
theorem inv_bad {d : List Nat} {k : Nat} (hk : k < d.length) (h : isD (d.getD k 0) = false) : isDs d = false := by
  unfold isDs
  rw [not_all d k hk h, Bool.and_false]
theorem inv_step {d : List Nat} {k : Nat} {N : Int} {g : Bool} (h : Inv d k N g) (hk : k < d.length) (x : Nat) (hx : d.getD k 0 = 48 + x) (hx9 : x ≤ 9) :
    (g = true → Inv d (k + 1) N true) ∧ (g = false → N > 461168601842738790 → Inv d (k + 1) N true) ∧ (g = false → ¬ N > 461168601842738790 → Inv d (k + 1) (N * 10 + x) (decide (4611686018427387904 < N * 10 + (x : Int)))) := by
  obtain ⟨h1, h2, h3⟩ := h
  have hv := val_step d k hk
  rw [hx] at hv
  have hd : ∀ j, j < k + 1 → isD (d.getD j 0) = true := fun j hj => by
    by_cases g : j = k
    · subst g
      rw [hx]
      unfold isD
      simp
      omega
    · exact h1 j (by omega)
  refine ⟨fun hg => ⟨hd, fun _ => by have := h2 hg; omega, fun h => (nomatch h)⟩, fun hg hb => ⟨hd, fun _ => by have := h3 hg; omega, fun h => (nomatch h)⟩, fun hg hb => ⟨hd, fun h => ?_, fun h => ?_⟩⟩
  · have := h3 hg
    have h' := of_decide_eq_true h
    omega
  · have := h3 hg
    have h' := of_decide_eq_false h
    omega
theorem inv_end {d : List Nat} {k : Nat} {N : Int} {g : Bool} {m : Bool} (h : Inv d k N g) (hk : d.length ≤ k) (h0 : 0 < d.length) :
    (g = true → readD m d = (0, 4)) ∧ (g = false → ((mostOf m : Int) < N → readD m d = (0, 4)) ∧ (N ≤ mostOf m → readD m d = (if m = true then -N else N, 0)) ∧ N ≤ 4611686018427387904) := by
  obtain ⟨h1, h2, h3⟩ := h
  rw [List.take_of_length_le hk] at h2 h3
  have hds : isDs d = true := by
    unfold isDs
    rw [all_getD d (fun j hj => h1 j (by omega))]
    cases d with
    | nil => simp at h0
    | cons a l => rfl
  have hm : mostOf m ≤ 4611686018427387904 := by unfold mostOf; split <;> omega
  refine ⟨fun hg => readD_big hds (by have := h2 hg; omega), fun hg => ?_⟩
  obtain ⟨e, hb⟩ := h3 hg
  subst e
  exact ⟨fun h => readD_big hds (by omega), fun h => readD_ok hds (by omega), hb⟩

set_option maxRecDepth 100000 in
theorem refRead_any (s : ByteArray) (w : World) (hs : s.size ≤ 9223372036854775807) :
    Calls Try.prog 24 #[.string s] w fun e w' => e = .returned (.tuple #[.int .i64 (readS (bytesOf s)).1, .int .i64 (readS (bytesOf s)).2]) ∧ w = w' := by
  by_cases h0 : s.size = 0
  · have hb : bytesOf s = [] := List.eq_nil_of_length_eq_zero (by rw [bytesOf_length]; exact h0)
    have hr : readS (bytesOf s) = (0, 2) := by rw [hb]; rfl
    rw [hr]
    go_enter Try.func24, Try.ntmps24
    go_wp2_with fail
    go_ret2
    exact ⟨rfl, rfl⟩
  · have hpos : 0 < s.size := by omega
    have hix0 : ∀ W, (Instr.index 9 (.string s) (.int .i64 0)).run Try.prog W = .ok (.int .u8 (((bytesOf s).getD 0 0 : Nat) : Int)) W := fun W => idx_str s 0 hpos hs W
    have hlen := bytesOf_length s
    by_cases h45 : (bytesOf s).getD 0 0 = 45
    · have hr : readS (bytesOf s) = readD true ((bytesOf s).drop 1) := by
        unfold readS
        rw [if_pos]
        rw [← h45]
        cases hb : bytesOf s with
        | nil => rw [hb] at hlen; simp at hlen; omega
        | cons a l => rfl
      rw [hr]
      have e45 : (((bytesOf s).getD 0 0 : Nat) : Int) = 45 := by omega
      rw [e45] at hix0
      clear e45
      have HD : Hid (∀ k, 1 ≤ k → (bytesOf s).getD k 0 = ((bytesOf s).drop 1).getD (k - 1) 0) := Lib.hid (fun k hk => by
        rw [List.getD_eq_getElem?_getD, List.getD_eq_getElem?_getD, List.getElem?_drop]
        congr 2
        omega)
      have HL : Hid (((bytesOf s).drop 1).length = s.size - 1) := Lib.hid (by rw [List.length_drop, hlen])
      generalize (bytesOf s).drop 1 = d at *
      by_cases h1 : s.size = 1
      · have hdn : d = [] := List.eq_nil_of_length_eq_zero (by rw [HL.out]; omega)
        have hr2 : readD true d = (0, 2) := by rw [hdn]; rfl
        rw [hr2]
        clear hr hr2 hdn h45 hlen
        go_enter Try.func24, Try.ntmps24
        go_wp2_with fail
        go_ret2
        exact ⟨rfl, rfl⟩
      · have HNE : Hid (0 < d.length) := Lib.hid (by rw [HL.out]; omega)
        clear hr h45 hlen
        go_enter Try.func24, Try.ntmps24
        go_wp2_with fail
        go_loop [5, 6, 7] (fun i n b => ∃ (k : Nat) (N : Int) (g : Bool), 1 ≤ k ∧ k ≤ s.size ∧ i = .int .i64 k ∧ n = .int .u64 N ∧ b = .bool g ∧ 0 ≤ N ∧ N ≤ 4611686018427387913 ∧ Hid (Inv d (k - 1) N g)) (fun i _ _ => s.size - (intOf i).toNat)
        case atStart => exact ⟨1, 0, false, Nat.le_refl _, by omega, rfl, rfl, rfl, by omega, by omega, Lib.hid (inv_start d)⟩
        case round =>
          obtain ⟨k, N, g, hok, hk, rfl, rfl, rfl, hN0, hN1, HI⟩ := hrel
          by_cases hlt : k < s.size
          · have hix := idx_str s k hlt hs
            have hc := getD_lt s k hlt
            have hd : (bytesOf s).getD k 0 = d.getD (k - 1) 0 := HD.out k (by omega)
            rw [hd] at hix hc
            clear hd
            have hlen : k - 1 < d.length := by have := HL.out; omega
            have HBAD := Lib.hid (fun h => readD_bad (m := true) (inv_bad hlen h))
            have HSTEP := Lib.hid (fun x hx hx9 => inv_step HI.out hlen x hx hx9)
            have hke : k + 1 - 1 = k - 1 + 1 := by omega
            generalize d.getD (k - 1) 0 = c at *
            by_cases h1 : (c : Int) < 48
            · have HR := Lib.hid (HBAD.out (by unfold isD; simp; omega))
              clear HBAD HSTEP
              go_wp2_with fail
              go_ret2
              exact ⟨by rw [HR.out]; rfl, rfl⟩
            · by_cases h2 : (c : Int) > 57
              · have HR := Lib.hid (HBAD.out (by unfold isD; simp; omega))
                clear HBAD HSTEP
                go_wp2_with fail
                go_ret2
                exact ⟨by rw [HR.out]; rfl, rfl⟩
              · obtain ⟨x, rfl⟩ : ∃ x, c = 48 + x := ⟨c - 48, by omega⟩
                have hx9 : x ≤ 9 := by omega
                obtain ⟨S1, S2, S3⟩ := HSTEP.out x rfl hx9
                have HS1 := Lib.hid S1
                have HS2 := Lib.hid S2
                have HS3 := Lib.hid S3
                have e48 : ((48 + x : Nat) : Int) = 48 + (x : Int) := by omega
                rw [e48] at hix h1 h2
                clear e48 S1 S2 S3 HBAD HSTEP hc h1 h2
                have h1 : ¬ (48 + (x : Int) < 48) := by omega
                have h2 : ¬ (57 < 48 + (x : Int)) := by omega
                cases g with
                | true =>
                  have HR := Lib.hid (HS1.out rfl)
                  go_wp2_with fail
                  go_round
                  case rel => exact ⟨k + 1, N, true, by omega, by omega, by go_num, rfl, rfl, hN0, hN1, by rw [hke]; exact HR⟩
                  case measure => simp [intOf]; omega
                | false =>
                  by_cases hb : N > 461168601842738790
                  · have HR := Lib.hid (HS2.out rfl hb)
                    go_wp2_with fail
                    go_round
                    case rel => exact ⟨k + 1, N, true, by omega, by omega, by go_num, rfl, rfl, hN0, hN1, by rw [hke]; exact HR⟩
                    case measure => simp [intOf]; omega
                  · have HR := Lib.hid (HS3.out rfl hb)
                    by_cases hq : 4611686018427387904 < N * 10 + (x : Int)
                    · go_wp2_with fail
                      go_round
                      case rel => exact ⟨k + 1, N * 10 + x, true, by omega, by omega, by go_num, by go_num, by first | rfl | (simp; omega), by omega, by omega, by rw [hke]; have := HR.out; rw [decide_eq_true hq] at this; exact Lib.hid this⟩
                      case measure => simp [intOf]; omega
                    · go_wp2_with fail
                      go_round
                      case rel => exact ⟨k + 1, N * 10 + x, false, by omega, by omega, by go_num, by go_num, by first | rfl | (simp; omega), by omega, by omega, by rw [hke]; have := HR.out; rw [decide_eq_false hq] at this; exact Lib.hid this⟩
                      case measure => simp [intOf]; omega
          · have HE := Lib.hid (inv_end (m := true) HI.out (by have := HL.out; omega) HNE.out)
            cases g with
            | true =>
              have HR := Lib.hid (HE.out.1 rfl)
              go_wp2_with fail
              go_ret2
              exact ⟨by rw [HR.out]; rfl, rfl⟩
            | false =>
              obtain ⟨E1, E2, E3⟩ := HE.out.2 rfl
              have HE1 := Lib.hid E1
              have HE2 := Lib.hid E2
              clear E1 E2
              by_cases hq : N = 4611686018427387904
              · subst hq
                go_wp2_with fail
                go_ret2
                exact ⟨by rw [HE2.out (by decide)]; rfl, rfl⟩
              · have hq' : (N == 4611686018427387904) = false := by simpa using hq
                go_wp2_with fail
                go_ret2
                exact ⟨by rw [HE2.out (by unfold mostOf; simp; omega)]; rfl, rfl⟩

    · have hr : readS (bytesOf s) = readD false (bytesOf s) := by
        unfold readS
        rw [if_neg]
        intro h
        apply h45
        cases hb : bytesOf s with
        | nil => rw [hb] at h; cases h
        | cons a l => rw [hb] at h; simpa using h
      rw [hr]
      have HD : Hid (∀ k, 0 ≤ k → (bytesOf s).getD k 0 = (bytesOf s).getD (k - 0) 0) := Lib.hid (fun k _ => rfl)
      have HL : Hid ((bytesOf s).length = s.size - 0) := Lib.hid (by rw [hlen]; rfl)
      have HNE : Hid (0 < (bytesOf s).length) := Lib.hid (by rw [hlen]; omega)
      have hn45 : (((bytesOf s).getD 0 0 : Nat) : Int) ≠ 45 := by omega
      generalize ((bytesOf s).getD 0 0) = c0 at hix0 hn45
      have hn45' : ((c0 : Int) == 45) = false := by simpa using hn45
      obtain ⟨d, hdd⟩ : ∃ d, d = bytesOf s := ⟨_, rfl⟩
      rw [← hdd] at HL HNE ⊢
      have HD : Hid (∀ k, 0 ≤ k → (bytesOf s).getD k 0 = d.getD (k - 0) 0) := Lib.hid (fun k _ => by rw [hdd]; rfl)
      clear hr h45 hlen hn45 hdd
      go_enter Try.func24, Try.ntmps24
      go_wp2_with fail
      go_loop [5, 6, 7] (fun i n b => ∃ (k : Nat) (N : Int) (g : Bool), 0 ≤ k ∧ k ≤ s.size ∧ i = .int .i64 k ∧ n = .int .u64 N ∧ b = .bool g ∧ 0 ≤ N ∧ N ≤ 4611686018427387913 ∧ Hid (Inv d (k - 0) N g)) (fun i _ _ => s.size - (intOf i).toNat)
      case atStart => exact ⟨0, 0, false, Nat.le_refl _, by omega, rfl, rfl, rfl, by omega, by omega, Lib.hid (inv_start d)⟩
      case round =>
        obtain ⟨k, N, g, hok, hk, rfl, rfl, rfl, hN0, hN1, HI⟩ := hrel
        by_cases hlt : k < s.size
        · have hix := idx_str s k hlt hs
          have hc := getD_lt s k hlt
          have hd : (bytesOf s).getD k 0 = d.getD (k - 0) 0 := HD.out k (by omega)
          rw [hd] at hix hc
          clear hd
          have hlen : k - 0 < d.length := by have := HL.out; omega
          have HBAD := Lib.hid (fun h => readD_bad (m := false) (inv_bad hlen h))
          have HSTEP := Lib.hid (fun x hx hx9 => inv_step HI.out hlen x hx hx9)
          have hke : k + 1 - 0 = k - 0 + 1 := by omega
          generalize d.getD (k - 0) 0 = c at *
          by_cases h1 : (c : Int) < 48
          · have HR := Lib.hid (HBAD.out (by unfold isD; simp; omega))
            clear HBAD HSTEP
            go_wp2_with fail
            go_ret2
            exact ⟨by rw [HR.out]; rfl, rfl⟩
          · by_cases h2 : (c : Int) > 57
            · have HR := Lib.hid (HBAD.out (by unfold isD; simp; omega))
              clear HBAD HSTEP
              go_wp2_with fail
              go_ret2
              exact ⟨by rw [HR.out]; rfl, rfl⟩
            · obtain ⟨x, rfl⟩ : ∃ x, c = 48 + x := ⟨c - 48, by omega⟩
              have hx9 : x ≤ 9 := by omega
              obtain ⟨S1, S2, S3⟩ := HSTEP.out x rfl hx9
              have HS1 := Lib.hid S1
              have HS2 := Lib.hid S2
              have HS3 := Lib.hid S3
              have e48 : ((48 + x : Nat) : Int) = 48 + (x : Int) := by omega
              rw [e48] at hix h1 h2
              clear e48 S1 S2 S3 HBAD HSTEP hc h1 h2
              have h1 : ¬ (48 + (x : Int) < 48) := by omega
              have h2 : ¬ (57 < 48 + (x : Int)) := by omega
              cases g with
              | true =>
                have HR := Lib.hid (HS1.out rfl)
                go_wp2_with fail
                go_round
                case rel => exact ⟨k + 1, N, true, by omega, by omega, by go_num, rfl, rfl, hN0, hN1, by rw [hke]; exact HR⟩
                case measure => simp [intOf]; omega
              | false =>
                by_cases hb : N > 461168601842738790
                · have HR := Lib.hid (HS2.out rfl hb)
                  go_wp2_with fail
                  go_round
                  case rel => exact ⟨k + 1, N, true, by omega, by omega, by go_num, rfl, rfl, hN0, hN1, by rw [hke]; exact HR⟩
                  case measure => simp [intOf]; omega
                · have HR := Lib.hid (HS3.out rfl hb)
                  by_cases hq : 4611686018427387904 < N * 10 + (x : Int)
                  · go_wp2_with fail
                    go_round
                    case rel => exact ⟨k + 1, N * 10 + x, true, by omega, by omega, by go_num, by go_num, by first | rfl | (simp; omega), by omega, by omega, by rw [hke]; have := HR.out; rw [decide_eq_true hq] at this; exact Lib.hid this⟩
                    case measure => simp [intOf]; omega
                  · go_wp2_with fail
                    go_round
                    case rel => exact ⟨k + 1, N * 10 + x, false, by omega, by omega, by go_num, by go_num, by first | rfl | (simp; omega), by omega, by omega, by rw [hke]; have := HR.out; rw [decide_eq_false hq] at this; exact Lib.hid this⟩
                    case measure => simp [intOf]; omega
        · have HE := Lib.hid (inv_end (m := false) HI.out (by have := HL.out; omega) HNE.out)
          cases g with
          | true =>
            have HR := Lib.hid (HE.out.1 rfl)
            go_wp2_with fail
            go_ret2
            exact ⟨by rw [HR.out]; rfl, rfl⟩
          | false =>
            obtain ⟨E1, E2, E3⟩ := HE.out.2 rfl
            have HE1 := Lib.hid E1
            have HE2 := Lib.hid E2
            clear E1 E2
            by_cases hq : N = 4611686018427387904
            · subst hq
              go_wp2_with fail
              go_ret2
              exact ⟨by rw [HE1.out (by decide)]; rfl, rfl⟩
            · have hq' : (N == 4611686018427387904) = false := by simpa using hq
              go_wp2_with fail
              go_ret2
              exact ⟨by rw [HE2.out (by unfold mostOf; simp; omega)]; rfl, rfl⟩

end Go.Proofs.Ytghddknhoiaboaa
