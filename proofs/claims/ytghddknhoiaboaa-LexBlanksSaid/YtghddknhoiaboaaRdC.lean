/-
  The law NumReads: digits with a point; the contract of num.ReadFloat.
-/
import Derived.Test.YtghddknhoiaboaaRdB
namespace Go.Proofs.Ytghddknhoiaboaa
set_option maxRecDepth 100000
open Go.ChangeShapes Go.WideShapes Go.ChangeAt Go.RowKit
open Fl (rung INFR NANB isNan canon made fi)
set_option linter.unusedVariables false

def cut8 : List UInt8 → List UInt8 × List UInt8 × Bool
  | [] => ([], [], false)
  | c :: r => if c = 46 then ([], r, true) else (c :: (cut8 r).1, (cut8 r).2.1, (cut8 r).2.2)
theorem cut_eq : ∀ l : List UInt8, Lib.cut l [46] = cut8 l
  | [] => by unfold Lib.cut Lib.index; rfl
  | c :: r => by
    have ih := cut_eq r
    have hge := Lib.index_ge r [46]
    by_cases h : c = 46
    · subst h
      have hi : Lib.index ((46 : UInt8) :: r) [46] = 0 := by unfold Lib.index; simp
      unfold Lib.cut cut8
      rw [hi]
      simp
    · have h2 : ¬ (46 : UInt8) = c := fun e => h e.symm
      have hp : [(46 : UInt8)].isPrefixOf (c :: r) = false := by
        show ((46 : UInt8) == c && ([] : List UInt8).isPrefixOf r) = false
        rw [beq_eq_false_iff_ne.2 h2]
        rfl
      unfold cut8
      rw [if_neg h, ← ih]
      by_cases hn : Lib.index r [46] = -1
      · have hi : Lib.index (c :: r) [46] = -1 := by unfold Lib.index; rw [hp, hn]; simp
        unfold Lib.cut
        rw [hi, hn]
        simp
      · obtain ⟨i, hii⟩ : ∃ i : Nat, Lib.index r [46] = i := ⟨(Lib.index r [46]).toNat, by omega⟩
        have hi : Lib.index (c :: r) [46] = i + 1 := by
          have hb : ((i : Int) == -1) = false := by simp
          conv => lhs; unfold Lib.index
          rw [hp, hii, hb]
          simp
        unfold Lib.cut
        rw [hi, hii]
        have e1 : (0 : Int) ≤ (i : Int) + 1 := by omega
        have e2 : (0 : Int) ≤ (i : Int) := by omega
        have e3 : ((i : Int) + 1).toNat = i + 1 := by omega
        have e4 : ((i : Int)).toNat = i := by omega
        rw [if_pos e1, if_pos e2, e3, e4]
        simp
def cutN : List Nat → List Nat × List Nat
  | [] => ([], [])
  | c :: r => if c = 46 then ([], r) else (c :: (cutN r).1, (cutN r).2)
theorem cut8_N : ∀ l : List UInt8, nat (cut8 l).1 = (cutN (nat l)).1 ∧ nat (cut8 l).2.1 = (cutN (nat l)).2
  | [] => ⟨rfl, rfl⟩
  | c :: r => by
    obtain ⟨h1, h2⟩ := cut8_N r
    have e : nat (c :: r) = c.toNat :: nat r := rfl
    rw [e]
    unfold cut8 cutN
    by_cases h : c = 46
    · subst h
      rw [if_pos rfl, if_pos (by rfl)]
      exact ⟨rfl, rfl⟩
    · have h3 : ¬ c.toNat = 46 := fun e => h (UInt8.toNat_inj.1 e)
      rw [if_neg h, if_neg h3]
      exact ⟨by show c.toNat :: nat (cut8 r).1 = _; rw [h1], h2⟩
theorem cutN_len (d : List Nat) : (cutN d).1.length ≤ d.length ∧ (cutN d).2.length ≤ d.length := by
  induction d with
  | nil => exact ⟨Nat.le_refl _, Nat.le_refl _⟩
  | cons c r ih =>
    unfold cutN
    split
    · exact ⟨Nat.zero_le _, by simp⟩
    · exact ⟨by simpa using ih.1, by have := ih.2; simp; omega⟩
/-- the opposite, or not -/
def sgn (m : Bool) (x : Nat) : Nat := if m = true then x ^^^ 9223372036854775808 else x
/-- what ReadFloat answers -/
def rdF (m : Bool) (d : List Nat) : Nat × Int :=
  if isDs (cutN d).1 = false ∨ isDs (cutN d).2 = false then (0, 2)
  else if 15 < (cutN d).1.length + (cutN d).2.length then (0, 4)
  else (sgn m (made (Fl.D.div (fi (val ((cutN d).1 ++ (cutN d).2))) (fi (10 ^ (cutN d).2.length)))), 0)
def rdS (l : List Nat) : Nat × Int := if l.head? = some 45 then rdF true (l.drop 1) else rdF false l
theorem cut_minusF (s : ByteArray) : rdS (bytesOf s) = rdF (Lib.hasPrefix s.data.toList [45]) (bytesOf ⟨(Lib.trimPrefix s.data.toList [45]).toArray⟩) := by
  unfold rdS Lib.trimPrefix Lib.hasPrefix bytesOf
  cases hl : s.data.toList with
  | nil => simp
  | cons c l =>
    by_cases h : c = 45
    · subst h
      simp
    · have h2 : ¬ c.toNat = 45 := fun e => h (UInt8.toNat_inj.1 e)
      have h3 : ¬ (45 : UInt8) = c := fun e => h e.symm
      have h4 : [(45 : UInt8)].isPrefixOf (c :: l) = false := by show ((45 : UInt8) == c && ([] : List UInt8).isPrefixOf l) = false; rw [beq_eq_false_iff_ne.2 h3]; rfl
      rw [h4]
      simp [h2]
theorem val_lt (l : List Nat) (h : ∀ j, j < l.length → l.getD j 0 ≤ 57) : val l < 10 ^ l.length := by
  have key : ∀ k, k ≤ l.length → val (l.take k) < 10 ^ k := by
    intro k
    induction k with
    | zero =>
      intro _
      rw [List.take_zero]
      decide
    | succ k ih =>
      intro hk
      have h1 := ih (by omega)
      have h2 := h k (by omega)
      rw [val_step l k (by omega), Nat.pow_succ]
      omega
  have := key l.length (Nat.le_refl _)
  rwa [List.take_length] at this
theorem isDs_append {a b : List Nat} (h1 : isDs a = true) (h2 : isDs b = true) : isDs (a ++ b) = true := by
  unfold isDs at *
  rw [Bool.and_eq_true] at h1 h2 ⊢
  refine ⟨?_, by rw [List.all_append, h1.2, h2.2]; rfl⟩
  cases a with
  | nil => simp at h1
  | cons c r => rfl
/-- few digits: what Read makes of them -/
theorem read_few (l : List Nat) (h : isDs l = true) (hl : l.length ≤ 15) : readS l = ((val l : Int), 0) ∧ val l ≤ 1000000000000000 := by
  have hd := (isDs_true h).2
  have hv := val_lt l (fun j hj => (hd j hj).2)
  have hp : 10 ^ l.length ≤ 10 ^ 15 := Nat.pow_le_pow_right (by decide) hl
  have hp2 : (10 : Nat) ^ 15 = 1000000000000000 := by decide
  have h0 : ¬ l.head? = some 45 := by
    intro hh
    cases l with
    | nil => cases hh
    | cons c r =>
      have := hd 0 (by simp)
      simp at hh
      subst hh
      simp at this
  unfold readS
  rw [if_neg h0, readD_ok h (by unfold mostOf; simp; omega)]
  exact ⟨rfl, by omega⟩
set_option maxRecDepth 100000 in
theorem readFloat_any (s : ByteArray) (w : World) (hs : s.size ≤ 70000) (mx : Int) (hmx : w.cell? ⟨1, 0, none⟩ = some (.int .i64 mx)) :
    Calls Try.prog 41 #[.string s] w fun e w' => e = .returned (.tuple #[.int .u64 ((rdS (bytesOf s)).1 : Nat), .int .i64 (rdS (bytesOf s)).2]) ∧ Below w.heap.size w w' := by
  have hcut := cut_minusF s
  have hle := (cut_minus s).2
  have HCP := Lib.hid (strings_CutPrefix s ⟨#[45]⟩)
  have hdd : ((⟨#[45]⟩ : ByteArray)).data.toList = [45] := rfl
  rw [hdd] at HCP
  rw [hcut]
  generalize Lib.hasPrefix s.data.toList [45] = m at *
  generalize (⟨(Lib.trimPrefix s.data.toList [45]).toArray⟩ : ByteArray) = D at *
  have HC := Lib.hid (strings_Cut D ⟨#[46]⟩ mx w (by omega) hmx)
  have hdd2 : ((⟨#[46]⟩ : ByteArray)).data.toList = [46] := rfl
  rw [hdd2, cut_eq] at HC
  obtain ⟨hN1, hN2⟩ := cut8_N D.data.toList
  obtain ⟨hL1, hL2⟩ := cutN_len (bytesOf D)
  rw [bytesOf_length] at hL1 hL2
  have hW : bytesOf ⟨(cut8 D.data.toList).1.toArray⟩ = (cutN (bytesOf D)).1 := by rw [show bytesOf D = nat D.data.toList from rfl, ← hN1]; simp [bytesOf, nat]
  have hP : bytesOf ⟨(cut8 D.data.toList).2.1.toArray⟩ = (cutN (bytesOf D)).2 := by rw [show bytesOf D = nat D.data.toList from rfl, ← hN2]; simp [bytesOf, nat]
  unfold rdF
  generalize (⟨(cut8 D.data.toList).1.toArray⟩ : ByteArray) = W at *
  generalize (⟨(cut8 D.data.toList).2.1.toArray⟩ : ByteArray) = P at *
  generalize (cut8 D.data.toList).2.2 = fd at *
  rw [← hW] at hL1 ⊢
  rw [← hP] at hL2 ⊢
  rw [bytesOf_length] at hL1 hL2
  have hszW : W.size ≤ 70000 := by omega
  have hszP : P.size ≤ 70000 := by omega
  have HA1 := Lib.hid (fun u => areDigits_any W u (by omega))
  have HA2 := Lib.hid (fun u => areDigits_any P u (by omega))
  clear hcut hle hdd hdd2 hN1 hN2 hW hP hL1 hL2 hmx
  cases h1 : isDs (bytesOf W) with
  | false =>
    rw [h1] at HA1
    rw [if_pos (.inl rfl)]
    go_enter Try.func41, Try.ntmps41
    go_wp2_with (first
      | (go_at_call 48; refine (HCP.out w).mono ?_; rintro e w' ⟨rfl, rfl⟩)
      | (go_at_call 50; refine HC.out.mono ?_; rintro e w1 ⟨rfl, nd, rfl⟩)
      | (go_at_call_of 49 W; refine (HA1.out _).mono ?_; rintro e w' ⟨rfl, rfl⟩))
    go_ret2
    exact ⟨rfl, (Dr.below ⟨_, rfl⟩)⟩
  | true =>
    rw [h1] at HA1
    cases h2 : isDs (bytesOf P) with
    | false =>
      rw [h2] at HA2
      rw [if_pos (.inr rfl)]
      go_enter Try.func41, Try.ntmps41
      go_wp2_with (first
        | (go_at_call 48; refine (HCP.out w).mono ?_; rintro e w' ⟨rfl, rfl⟩)
        | (go_at_call 50; refine HC.out.mono ?_; rintro e w1 ⟨rfl, nd, rfl⟩)
        | (go_at_call_of 49 W; refine (HA1.out _).mono ?_; rintro e w' ⟨rfl, rfl⟩)
        | (go_at_call_of 49 P; refine (HA2.out _).mono ?_; rintro e w' ⟨rfl, rfl⟩))
      go_ret2
      exact ⟨rfl, (Dr.below ⟨_, rfl⟩)⟩
    | true =>
      rw [h2] at HA2
      rw [if_neg (by intro h; rcases h with h | h <;> cases h), bytesOf_length, bytesOf_length]
      by_cases h3 : 15 < W.size + P.size
      · rw [if_pos h3]
        have h3i : (15 : Int) < (W.size : Int) + (P.size : Int) := by omega
        go_enter Try.func41, Try.ntmps41
        go_wp2_with (first
          | (go_at_call 48; refine (HCP.out w).mono ?_; rintro e w' ⟨rfl, rfl⟩)
          | (go_at_call 50; refine HC.out.mono ?_; rintro e w1 ⟨rfl, nd, rfl⟩)
          | (go_at_call_of 49 W; refine (HA1.out _).mono ?_; rintro e w' ⟨rfl, rfl⟩)
          | (go_at_call_of 49 P; refine (HA2.out _).mono ?_; rintro e w' ⟨rfl, rfl⟩))
        go_ret2
        exact ⟨rfl, (Dr.below ⟨_, rfl⟩)⟩
      · rw [if_neg h3]
        have h3i : ¬ ((15 : Int) < (W.size : Int) + (P.size : Int)) := by omega
        have hWP : bytesOf (W ++ P) = bytesOf W ++ bytesOf P := by simp [bytesOf]
        have hcat : isDs (bytesOf W ++ bytesOf P) = true := isDs_append h1 h2
        obtain ⟨hrd, hvl⟩ := read_few (bytesOf W ++ bytesOf P) hcat (by rw [List.length_append, bytesOf_length, bytesOf_length]; omega)
        have hszc : (W ++ P).size ≤ 9223372036854775807 := by rw [← bytesOf_length, hWP, List.length_append, bytesOf_length, bytesOf_length]; omega
        have HRD := Lib.hid (fun u => read_any (W ++ P) u hszc)
        rw [hWP, hrd] at HRD
        have hlim : ¬ (9223372036854775807 < W.size + P.size) := by omega
        have HOI := Lib.hid (fun u => ofInt_any (val (bytesOf W ++ bytesOf P)) (by omega) u)
        have HPW := Lib.hid (fun u => pow_any P.size (by omega) u)
        have hp15 : 10 ^ P.size ≤ 1000000000000000 := Nat.le_trans (Nat.pow_le_pow_right (by decide) (show P.size ≤ 15 by omega)) (by decide)
        have HOP := Lib.hid (fun u => ofInt_any (10 ^ P.size) (by omega) u)
        obtain ⟨q, hq1, hq2, hq3⟩ := Fl.fi_div (val (bytesOf W ++ bytesOf P)) (10 ^ P.size) (by omega) (by omega) (Nat.pow_pos (by decide))
        have HOV := Lib.hid (fun u => over_any (fi (val (bytesOf W ++ bytesOf P))) (fi (10 ^ P.size)) u)
        have hmd : made (Fl.D.div (fi (val (bytesOf W ++ bytesOf P))) (fi (10 ^ P.size))) = q := by rw [hq1]; exact Fl.canon_not hq2
        rw [hmd] at HOV ⊢
        have HNG := Lib.hid (fun u => neg_num q hq3 hq2 u)
        clear hq1 hmd hrd hWP hcat
        generalize hC : W ++ P = C at *
        generalize val (bytesOf W ++ bytesOf P) = V at *
        generalize fi V = FV at *
        obtain ⟨T, hT⟩ : ∃ T, T = 10 ^ P.size := ⟨_, rfl⟩
        rw [← hT] at HPW HOP HOV
        clear hT hp15
        generalize fi T = FT at *
        cases m
        · go_enter Try.func41, Try.ntmps41
          go_wp2_with (first
            | (go_at_call 48; refine (HCP.out w).mono ?_; rintro e w' ⟨rfl, rfl⟩)
            | (go_at_call 50; refine HC.out.mono ?_; rintro e w1 ⟨rfl, nd, rfl⟩)
            | (go_at_call_of 49 W; refine (HA1.out _).mono ?_; rintro e w' ⟨rfl, rfl⟩)
            | (go_at_call_of 49 P; refine (HA2.out _).mono ?_; rintro e w' ⟨rfl, rfl⟩)
            | (go_at_call 40; refine (HRD.out _).mono ?_; rintro e w' ⟨rfl, rfl⟩)
            | (go_at_call_of 51 V; refine (HOI.out _).mono ?_; rintro e w' ⟨rfl, rfl⟩)
            | (go_at_call 53; refine (HPW.out _).mono ?_; rintro e w' ⟨rfl, rfl⟩)
            | (go_at_call_of 51 T; refine (HOP.out _).mono ?_; rintro e w' ⟨rfl, rfl⟩)
            | (go_at_call 52; refine (HOV.out _).mono ?_; rintro e w2 ⟨rfl, n2, rfl⟩))
          go_ret2
          exact ⟨rfl, ⟨rfl, rfl, rfl, Nat.le_refl _, fun _ _ => rfl⟩⟩
        · go_enter Try.func41, Try.ntmps41
          go_wp2_with (first
            | (go_at_call 48; refine (HCP.out w).mono ?_; rintro e w' ⟨rfl, rfl⟩)
            | (go_at_call 50; refine HC.out.mono ?_; rintro e w1 ⟨rfl, nd, rfl⟩)
            | (go_at_call_of 49 W; refine (HA1.out _).mono ?_; rintro e w' ⟨rfl, rfl⟩)
            | (go_at_call_of 49 P; refine (HA2.out _).mono ?_; rintro e w' ⟨rfl, rfl⟩)
            | (go_at_call 40; refine (HRD.out _).mono ?_; rintro e w' ⟨rfl, rfl⟩)
            | (go_at_call_of 51 V; refine (HOI.out _).mono ?_; rintro e w' ⟨rfl, rfl⟩)
            | (go_at_call 53; refine (HPW.out _).mono ?_; rintro e w' ⟨rfl, rfl⟩)
            | (go_at_call_of 51 T; refine (HOP.out _).mono ?_; rintro e w' ⟨rfl, rfl⟩)
            | (go_at_call 52; refine (HOV.out _).mono ?_; rintro e w2 ⟨rfl, n2, rfl⟩)
            | (go_at_call 54; refine (HNG.out _).mono ?_; rintro e w' ⟨rfl, rfl⟩))
          go_ret2
          exact ⟨rfl, ⟨rfl, rfl, rfl, Nat.le_refl _, fun _ _ => rfl⟩⟩
end Go.Proofs.Ytghddknhoiaboaa
