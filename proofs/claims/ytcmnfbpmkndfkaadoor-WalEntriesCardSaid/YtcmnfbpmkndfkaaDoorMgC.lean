/-
  Texts put together: CrcA, CrcB, CrcC, CrcD, CrcE, CrcF, CrcG, CrcH.
-/
import Derived.Laws.BitsAllLaws
import Derived.Test.YtcmnfbpmkndfkaaDoorRows
import Derived.WalkKit
import Derived.ProofKit
import Derived.OpenShut
import Derived.Lib.Hide
import Derived.Outline
import Derived.Lib.SlBytesConst
import Derived.Below
import Derived.Deep.RegionHeld2
import Derived.Laws.AppendOwnNone
import Derived.OwnWalk
import Derived.Deep.QuietTactic
import Derived.BigQuiet
namespace Go.Proofs.YtcmnfbpmkndfkaaDoor.Cr
set_option maxRecDepth 100000

/-- the register goes one to the right; if its lowest bit was 1 it is put together with the polynomial -/
def S (r : Nat) : Nat := if r % 2 = 1 then (r / 2) ^^^ 2197175160 else r / 2
def SN : Nat → Nat → Nat
  | 0, r => r
  | n + 1, r => SN n (S r)

theorem xor_mod2 (a b : Nat) : (a ^^^ b) % 2 = (a % 2 + b % 2) % 2 := by
  have h := Nat.testBit_xor a b 0
  rw [Nat.testBit_zero, Nat.testBit_zero, Nat.testBit_zero] at h
  generalize a ^^^ b = c at *
  rcases Nat.mod_two_eq_zero_or_one a with ha | ha <;> rcases Nat.mod_two_eq_zero_or_one b with hb | hb <;> rcases Nat.mod_two_eq_zero_or_one c with hc | hc <;> rw [ha, hb, hc] at h <;> first | (exact absurd h (by decide)) | (rw [ha, hb, hc])
theorem xor_div2 (a b : Nat) : (a ^^^ b) / 2 = (a / 2) ^^^ (b / 2) := Nat.xor_div_two

theorem S_xor (a b : Nat) : S (a ^^^ b) = S a ^^^ S b := by
  unfold S
  rw [xor_mod2, xor_div2]
  rcases Nat.mod_two_eq_zero_or_one a with ha | ha <;> rcases Nat.mod_two_eq_zero_or_one b with hb | hb <;> rw [ha, hb]
  · simp
  · simp only [Nat.zero_add, Nat.one_mod, if_true]; rw [if_neg (by decide), Nat.xor_assoc]
  · simp only [Nat.add_zero, Nat.one_mod, if_true]; rw [if_neg (by decide)]; ac_rfl
  · simp only [if_true]
    rw [if_neg (by decide)]
    have : a / 2 ^^^ 2197175160 ^^^ (b / 2 ^^^ 2197175160) = a / 2 ^^^ b / 2 ^^^ (2197175160 ^^^ 2197175160) := by
      ac_rfl
    rw [this, Nat.xor_self, Nat.xor_zero]
theorem SN_xor (n a b : Nat) : SN n (a ^^^ b) = SN n a ^^^ SN n b := by
  induction n generalizing a b with
  | zero => rfl
  | succ n ih => simp only [SN]; rw [S_xor, ih]
theorem S_zero : S 0 = 0 := rfl
theorem SN_zero (n : Nat) : SN n 0 = 0 := by induction n with | zero => rfl | succ n ih => simp only [SN]; rw [S_zero, ih]
theorem SN_add (m n r : Nat) : SN (m + n) r = SN n (SN m r) := by
  induction m generalizing r with
  | zero => rw [Nat.zero_add]; rfl
  | succ m ih => rw [show m + 1 + n = (m + n) + 1 by omega]; simp only [SN]; exact ih (S r)
theorem S_even (k : Nat) : S (2 * k) = k := by unfold S; rw [if_neg (by omega)]; omega

theorem S_lt (r : Nat) (h : r < 4294967296) : S r < 4294967296 := by
  unfold S
  split
  · exact Nat.xor_lt_two_pow (n := 32) (by omega) (by decide)
  · omega
theorem SN_lt (n r : Nat) (h : r < 4294967296) : SN n r < 4294967296 := by
  induction n generalizing r with
  | zero => exact h
  | succ n ih => exact ih _ (S_lt r h)

/-- the register's step loses nothing -/
theorem S_eq_zero (r : Nat) (h : r < 4294967296) (e : S r = 0) : r = 0 := by
  unfold S at e
  split at e
  · rename_i h1
    have h2 : r / 2 = 2197175160 := by
      have h3 := congrArg (· ^^^ 2197175160) e
      simp only [Nat.xor_assoc, Nat.xor_self, Nat.xor_zero, Nat.zero_xor] at h3
      exact h3
    omega
  · omega
theorem SN_eq_zero (n r : Nat) (h : r < 4294967296) (e : SN n r = 0) : r = 0 := by
  induction n generalizing r with
  | zero => exact e
  | succ n ih => exact S_eq_zero r h (ih _ (S_lt r h) e)

/-! four steps at once -/
def quarterL : List Nat := [0, 274646895, 549293790, 820201905, 1098587580, 1361435347, 1640403810, 1905808397, 2197175160, 2460548119, 2722870694, 2987750089, 3280807620, 3553878443, 3811616794, 4084100981]
theorem quarter_eq : ∀ i : Fin 16, SN 4 i.val = quarterL.getD i.val 0 := by decide
theorem SN4_mul (k : Nat) : SN 4 (16 * k) = k := by
  simp only [SN]
  rw [show 16 * k = 2 * (2 * (2 * (2 * k))) by omega, S_even, S_even, S_even, S_even]
theorem split16 (r : Nat) : r = (16 * (r / 16)) ^^^ (r % 16) := by
  have h := nat_join 4 (16 * (r / 16)) (r % 16) (by omega) (by omega)
  apply Nat.eq_of_testBit_eq
  intro i
  rw [Nat.testBit_xor]
  have h2 : r = 16 * (r / 16) ||| r % 16 := by rw [h]; omega
  have h3 : (16 * (r / 16)).testBit i = (decide (4 ≤ i) && r.testBit i) := by
    rw [show 16 * (r / 16) = 2 ^ 4 * (r / 2 ^ 4) from rfl, Nat.testBit_two_pow_mul, Nat.testBit_div_two_pow]
    by_cases g : 4 ≤ i
    · simp [g, show i - 4 + 4 = i by omega]
    · simp [g]
  have h4 : (r % 16).testBit i = (decide (i < 4) && r.testBit i) := by
    rw [show r % 16 = r % 2 ^ 4 from rfl, Nat.testBit_mod_two_pow]
  rw [h3, h4]
  by_cases g : 4 ≤ i
  · simp [g, show ¬ i < 4 by omega]
  · simp [g, show i < 4 by omega]
theorem four_steps (r : Nat) : (r / 16) ^^^ quarterL.getD (r % 16) 0 = SN 4 r := by
  have h := congrArg (SN 4) (split16 r)
  rw [SN_xor, SN4_mul] at h
  rw [h, ← quarter_eq ⟨r % 16, by omega⟩]

/-- a byte -/
def byteS (r c : Nat) : Nat := SN 8 (r ^^^ c)
theorem byte_steps (r : Nat) : ((((r / 16) ^^^ quarterL.getD (r % 16) 0) / 16) ^^^ quarterL.getD (((r / 16) ^^^ quarterL.getD (r % 16) 0) % 16) 0) = SN 8 r := by
  rw [four_steps (r / 16 ^^^ quarterL.getD (r % 16) 0), four_steps r]
  exact (SN_add 4 4 r).symm
theorem byteS_lt (r c : Nat) (h : r < 4294967296) (hc : c < 256) : byteS r c < 4294967296 := SN_lt 8 _ (Nat.xor_lt_two_pow (n := 32) h (by omega))

/-- the register behind bytes -/
def reg (r : Nat) (l : List Nat) : Nat := l.foldl byteS r
theorem reg_append (r : Nat) (l m : List Nat) : reg r (l ++ m) = reg (reg r l) m := List.foldl_append
theorem reg_lt (r : Nat) (l : List Nat) (h : r < 4294967296) (hl : ∀ c ∈ l, c < 256) : reg r l < 4294967296 := by
  induction l generalizing r with
  | nil => exact h
  | cons c l ih => exact ih _ (byteS_lt r c h (hl c (by simp))) (fun d hd => hl d (by simp [hd]))
theorem reg_snoc (r : Nat) (l : List Nat) (c : Nat) : reg r (l ++ [c]) = byteS (reg r l) c := by rw [reg_append]; rfl

def flip32 (r : Nat) : Nat := r ^^^ 4294967295
theorem flip32_flip32 (r : Nat) : flip32 (flip32 r) = r := by unfold flip32; rw [Nat.xor_assoc, Nat.xor_self, Nat.xor_zero]
theorem flip32_lt (r : Nat) (h : r < 4294967296) : flip32 r < 4294967296 := Nat.xor_lt_two_pow (n := 32) h (by decide)

/-- THE SUM -/
def more (s : Nat) (l : List Nat) : Nat := flip32 (reg (flip32 s) l)
theorem more_append (s : Nat) (l m : List Nat) : more s (l ++ m) = more (more s l) m := by
  unfold more; rw [reg_append, flip32_flip32]
theorem more_nil (s : Nat) : more s [] = s := flip32_flip32 s
def sum (l : List Nat) : Nat := more 0 l
theorem more_lt (s : Nat) (l : List Nat) (h : s < 4294967296) (hl : ∀ c ∈ l, c < 256) : more s l < 4294967296 := flip32_lt _ (reg_lt _ _ (flip32_lt _ h) hl)

/-! bit by bit -/
/-- the document's step, with a bit that comes in -/
def bitS (r b : Nat) : Nat := if (r % 2) ^^^ b = 1 then (r / 2) ^^^ 2197175160 else r / 2
theorem bitS_eq (r b : Nat) (hb : b < 2) : bitS r b = S (r ^^^ b) := by
  unfold bitS S
  have h1 : (r ^^^ b) % 2 = (r % 2 + b % 2) % 2 := xor_mod2 r b
  have h2 : (r ^^^ b) / 2 = r / 2 := by rw [xor_div2, show b / 2 = 0 by omega, Nat.xor_zero]
  rw [h1, h2]
  rcases Nat.mod_two_eq_zero_or_one r with hr | hr <;> rw [hr]
  · have : b = 0 ∨ b = 1 := by omega
    rcases this with rfl | rfl <;> rfl
  · have : b = 0 ∨ b = 1 := by omega
    rcases this with rfl | rfl <;> rfl

/-- so many bits of a number, the lowest first -/
def bitsS (c : Nat) : Nat → Nat → Nat
  | 0, r => r
  | k + 1, r => bitS (bitsS c k r) (c / 2 ^ k % 2)

theorem low_split (c k : Nat) : c % 2 ^ (k + 1) = (2 ^ k * (c / 2 ^ k % 2)) ^^^ (c % 2 ^ k) := by
  apply Nat.eq_of_testBit_eq
  intro i
  rw [Nat.testBit_xor, Nat.testBit_mod_two_pow, Nat.testBit_mod_two_pow, Nat.testBit_two_pow_mul]
  have h : (c / 2 ^ k % 2).testBit (i - k) = (decide (i - k < 1) && c.testBit (i - k + k)) := by
    rw [show c / 2 ^ k % 2 = c / 2 ^ k % 2 ^ 1 from rfl, Nat.testBit_mod_two_pow, Nat.testBit_div_two_pow]
  rw [h]
  by_cases g1 : i < k
  · simp [g1, show ¬ k ≤ i by omega, show i < k + 1 by omega]
  · by_cases g2 : i = k
    · subst g2; simp
    · simp [g1, show ¬ i < k + 1 by omega, show ¬ (i - k < 1) by omega]

theorem SN_shift (k b : Nat) : SN k (2 ^ k * b) = b := by
  induction k with
  | zero => simp [SN]
  | succ k ih => simp only [SN]; rw [Nat.pow_succ, show 2 ^ k * 2 * b = 2 * (2 ^ k * b) by rw [Nat.mul_comm (2 ^ k) 2, Nat.mul_assoc], S_even, ih]

theorem SN_succ (k r : Nat) : SN (k + 1) r = S (SN k r) := by rw [SN_add k 1]; rfl

/-- bits that come in one by one are as one number that comes in at once -/
theorem bitsS_eq (c k r : Nat) : bitsS c k r = SN k (r ^^^ (c % 2 ^ k)) := by
  induction k with
  | zero => simp [bitsS, SN, Nat.mod_one]
  | succ k ih =>
    simp only [bitsS]
    rw [bitS_eq _ _ (Nat.mod_lt _ (by decide)), ih, SN_succ, low_split c k]
    congr 1
    rw [show r ^^^ (2 ^ k * (c / 2 ^ k % 2) ^^^ c % 2 ^ k) = (r ^^^ c % 2 ^ k) ^^^ (2 ^ k * (c / 2 ^ k % 2)) by ac_rfl, SN_xor k (r ^^^ c % 2 ^ k), SN_shift]
theorem bitsS_byte (c r : Nat) (h : c < 256) : bitsS c 8 r = byteS r c := by
  rw [bitsS_eq, Nat.mod_eq_of_lt (by simpa using h)]; rfl

end Go.Proofs.YtcmnfbpmkndfkaaDoor.Cr
namespace Go.Proofs.YtcmnfbpmkndfkaaDoor.Cr
set_option maxRecDepth 100000
open Go.ChangeShapes Go.WideShapes Go.ChangeAt Go.RowKit
set_option linter.unusedVariables false

theorem ret_int {k : IntKind} {a b : Int} (h : a = b) : Ending.returned (.int k a) = .returned (.int k b) := by rw [h]

/-- a slice of bytes: its elements -/
def ByteRow (w : World) (a : Option Addr) (len : Nat) (l : List Nat) : Prop :=
  l.length = len ∧ len ≤ maxLen ∧ (∀ c ∈ l, c < 256) ∧ (0 < len → ∃ b o, a = some ⟨b, o, none⟩ ∧ ∀ i, i < len → w.cell? ⟨b, o + i, none⟩ = some (.int .u8 ((l.getD i 0 : Nat) : Int)))

/-- the table of four steps -/
def Tab (w : World) : Prop := ∀ i, i < 16 → w.cell? ⟨0, i, none⟩ = some (.int .u32 ((quarterL.getD i 0 : Nat) : Int))

theorem xor32 (a b : Nat) (ha : a < 4294967296) (hb : b < 4294967296) : ∃ c : Nat, bits .xor .u32 (a : Int) (b : Int) = (c : Int) ∧ c = a ^^^ b ∧ c < 4294967296 :=
  ⟨a ^^^ b, u32_xor_nat a b ha hb, rfl, Nat.xor_lt_two_pow (n := 32) ha hb⟩
theorem and15 (a : Nat) (ha : a < 4294967296) : bits .and .u32 (a : Int) 15 = ((a % 16 : Nat) : Int) := by
  have h := u32_and_nat a 15 ha (by decide)
  rw [nat_mask4] at h
  exact h
theorem quarter_lt : ∀ i : Fin 16, quarterL.getD i.val 0 < 4294967296 := by decide
theorem flip32_eq (a : Nat) (ha : a < 4294967296) : bits .xor .u32 IntKind.u32.max (a : Int) = ((flip32 a : Nat) : Int) := by
  have h := u32_xor_nat 4294967295 a (by decide) ha
  rw [Nat.xor_comm] at h
  exact h

theorem reg_take (r : Nat) (l : List Nat) (k : Nat) (hk : k < l.length) : reg r (l.take (k + 1)) = byteS (reg r (l.take k)) (l.getD k 0) := by
  have e : l.getD k 0 = l[k] := by simp [List.getD, List.getElem?_eq_getElem hk]
  rw [List.take_succ_eq_append_getElem hk, reg_snoc, e]

theorem getD_mem (l : List Nat) (k : Nat) (hk : k < l.length) : l.getD k 0 ∈ l := by
  have e : l.getD k 0 = l[k] := by simp [List.getD, List.getElem?_eq_getElem hk]
  rw [e]; exact List.getElem_mem hk

/-- what a byte does, as the walk spells it -/
theorem byte_walk (R C : Nat) (hR : R < 4294967296) (hC : C < 256) : ∃ X Q1 Y Q2 Z : Nat,
    bits .xor .u32 (R : Int) (C : Int) = (X : Int) ∧ X < 4294967296 ∧ bits .and .u32 (X : Int) 15 = ((X % 16 : Nat) : Int) ∧ X % 16 < 16 ∧ Q1 = quarterL.getD (X % 16) 0 ∧
    bits .xor .u32 ((X : Int) / 16) (Q1 : Int) = (Y : Int) ∧ Y < 4294967296 ∧ bits .and .u32 (Y : Int) 15 = ((Y % 16 : Nat) : Int) ∧ Y % 16 < 16 ∧ Q2 = quarterL.getD (Y % 16) 0 ∧
    bits .xor .u32 ((Y : Int) / 16) (Q2 : Int) = (Z : Int) ∧ Z = byteS R C ∧ Z < 4294967296 := by
  obtain ⟨X, hX, eX, lX⟩ := xor32 R C hR (by omega)
  have q1 := quarter_lt ⟨X % 16, by omega⟩
  obtain ⟨Y, hY, eY, lY⟩ := xor32 (X / 16) (quarterL.getD (X % 16) 0) (by omega) q1
  have q2 := quarter_lt ⟨Y % 16, by omega⟩
  obtain ⟨Z, hZ, eZ, lZ⟩ := xor32 (Y / 16) (quarterL.getD (Y % 16) 0) (by omega) q2
  refine ⟨X, _, Y, _, Z, hX, lX, and15 X lX, by omega, rfl, hY, lY, and15 Y lY, by omega, rfl, hZ, ?_, lZ⟩
  rw [eZ, eY, byte_steps X, eX]
  rfl

set_option maxHeartbeats 400000 in
theorem more_any (s : Nat) (hs : s < 4294967296) (a : Option Addr) (len cap : Nat) (l : List Nat) (w : World) (hl : ByteRow w a len l) (ht : Tab w) :
    Calls Tryd.prog 70 #[.int .u32 s, .slice a len cap] w fun e w' => e = .returned (.int .u32 (more s l : Nat)) ∧ w = w' := by
  obtain ⟨h1, h2, h3, h4⟩ := hl
  have hf := flip32_eq s hs
  have hfl := flip32_lt s hs
  have hmm : len ≤ 9223372036854775807 := by unfold maxLen at h2; omega
  have HL := Lib.hid h1
  have H3 := Lib.hid h3
  have HT := Lib.hid ht
  clear h1 h3 ht h2
  by_cases h0 : len = 0
  · subst h0
    clear h4
    obtain rfl : l = [] := List.eq_nil_of_length_eq_zero HL.out
    go_enter Tryd.func70, Tryd.ntmps70
    go_wp2_with fail
    go_loop [5, 12] (fun r i => i = .int .i64 0 ∧ r = .int .u32 (flip32 s : Nat)) (fun _ i => 0)
    case atStart => exact ⟨rfl, rfl⟩
    case round =>
      obtain ⟨rfl, rfl⟩ := hrel
      have hf2 := flip32_eq (flip32 s) hfl
      go_wp2
      go_ret
      exact ⟨ret_int rfl, rfl⟩
  · obtain ⟨b, o, rfl, hc⟩ := h4 (by omega)
    clear h4
    have HC := Lib.hid hc
    clear hc
    go_enter Tryd.func70, Tryd.ntmps70
    go_wp2_with fail
    go_loop [5, 12] (fun r i => ∃ k R : Nat, k ≤ len ∧ i = .int .i64 k ∧ r = .int .u32 (R : Nat) ∧ R = reg (flip32 s) (l.take k)) (fun _ i => len - (intOf i).toNat)
    case atStart => exact ⟨0, flip32 s, Nat.zero_le _, rfl, rfl, rfl⟩
    case round =>
      obtain ⟨k, R, hk, rfl, rfl, hR⟩ := hrel
      have hRl : R < 4294967296 := by rw [hR]; exact reg_lt _ _ hfl (fun c hc => H3.out c (List.mem_of_mem_take hc))
      have HR := Lib.hid hR
      clear hR
      by_cases hlt : k < len
      · have hcell := HC.out k hlt
        have hcm := H3.out _ (getD_mem l k (by rw [HL.out]; exact hlt))
        obtain ⟨C, hC⟩ : ∃ C, C = l.getD k 0 := ⟨_, rfl⟩
        rw [← hC] at hcell hcm
        obtain ⟨X, Q1, Y, Q2, Z, x1, x2, x3, x4, x5, y1, y2, y3, y4, y5, z1, z2, z3⟩ := byte_walk R C hRl hcm
        have t1 := HT.out (X % 16) x4
        have t2 := HT.out (Y % 16) y4
        rw [← x5] at t1
        rw [← y5] at t2
        have Z2 := Lib.hid z2
        have HCC := Lib.hid hC
        clear x5 y5 z2 hC
        go_wp2_with fail
        go_round
        case rel => exact ⟨k + 1, Z, by omega, by go_num, rfl, by rw [Z2.out, HCC.out, HR.out, reg_take _ _ _ (by rw [HL.out]; exact hlt)]⟩
        case measure => simp [intOf]; omega
      · have hf2 := flip32_eq R hRl
        go_wp2_with fail
        go_ret
        exact ⟨ret_int (by rw [HR.out, List.take_of_length_le (by rw [HL.out]; omega)]; rfl), rfl⟩

end Go.Proofs.YtcmnfbpmkndfkaaDoor.Cr
namespace Go.Proofs.YtcmnfbpmkndfkaaDoor.Cr
set_option maxRecDepth 100000
open Go.ChangeShapes Go.WideShapes Go.ChangeAt Go.RowKit
set_option linter.unusedVariables false

/-- a text's bytes as numbers -/
def nums (s : ByteArray) : List Nat := s.data.toList.map UInt8.toNat

theorem bit_in (Q c m : Nat) : bits .xor .u32 ((Q : Int) % 2) (((c : Int) / 2 ^ m).tmod 2 % 4294967296) = (((Q % 2) ^^^ (c / 2 ^ m % 2) : Nat) : Int) := by
  have hp : ((c : Int) / 2 ^ m) = ((c / 2 ^ m : Nat) : Int) := by rw [Int.natCast_ediv, Int.natCast_pow]; rfl
  rw [hp, Int.tmod_eq_emod_of_nonneg (Int.natCast_nonneg _)]
  have e : ((c / 2 ^ m : Nat) : Int) % 2 % 4294967296 = ((c / 2 ^ m % 2 : Nat) : Int) := by omega
  rw [e]
  exact u32_xor_nat (Q % 2) (c / 2 ^ m % 2) (by omega) (by omega)

theorem bit_true (Q c m : Nat) (hQ : Q < 4294967296) (h : (bits .xor .u32 ((Q : Int) % 2) (((c : Int) / 2 ^ m).tmod 2 % 4294967296) == 1) = true) :
    bits .xor .u32 ((Q : Int) / 2) 2197175160 = ((bitS Q (c / 2 ^ m % 2) : Nat) : Int) := by
  rw [bit_in] at h
  have h1 : (Q % 2) ^^^ (c / 2 ^ m % 2) = 1 := by
    have := beq_iff_eq.1 h
    omega
  unfold bitS
  rw [if_pos h1]
  exact u32_xor_nat (Q / 2) 2197175160 (by omega) (by decide)
theorem bit_false (Q c m : Nat) (h : (bits .xor .u32 ((Q : Int) % 2) (((c : Int) / 2 ^ m).tmod 2 % 4294967296) == 1) = false) :
    (Q : Int) / 2 = ((bitS Q (c / 2 ^ m % 2) : Nat) : Int) := by
  rw [bit_in] at h
  have h1 : ¬ (Q % 2) ^^^ (c / 2 ^ m % 2) = 1 := by
    have := beq_eq_false_iff_ne.1 h
    omega
  unfold bitS
  rw [if_neg h1]
  rfl
theorem bitS_lt (r b : Nat) (h : r < 4294967296) : bitS r b < 4294967296 := by
  unfold bitS
  split
  · exact Nat.xor_lt_two_pow (n := 32) (by omega) (by decide)
  · omega

theorem nums_length (s : ByteArray) : (nums s).length = s.size := by unfold nums; rw [List.length_map, Array.length_toList]; rfl
theorem nums_getD (s : ByteArray) (k : Nat) (hk : k < s.size) : (nums s).getD k 0 = s[k].toNat := by
  have h : k < (nums s).length := by rw [nums_length]; exact hk
  have e : (nums s).getD k 0 = (nums s)[k] := by simp [List.getD, List.getElem?_eq_getElem h]
  rw [e]
  simp only [nums, List.getElem_map, Array.getElem_toList]
  rfl
theorem nums_lt (s : ByteArray) : ∀ c ∈ nums s, c < 256 := by
  intro c hc
  obtain ⟨u, _, rfl⟩ := List.mem_map.1 hc
  exact u.toNat_lt

set_option maxHeartbeats 400000 in
theorem refSum_any (s : ByteArray) (w : World) (hs : s.size ≤ maxLen) :
    Calls Tryd.prog 44 #[.string s] w fun e w' => e = .returned (.int .u32 (sum (nums s) : Nat)) ∧ w = w' := by
  have hmm : s.size ≤ 9223372036854775807 := by unfold maxLen at hs; omega
  clear hs
  go_enter Tryd.func44, Tryd.ntmps44
  go_wp2_with fail
  go_loop [3, 4] (fun r i => ∃ k R : Nat, k ≤ s.size ∧ i = .int .i64 k ∧ r = .int .u32 (R : Nat) ∧ R < 4294967296 ∧ R = reg 4294967295 ((nums s).take k)) (fun _ i => s.size - (intOf i).toNat)
  case atStart => exact ⟨0, 4294967295, Nat.zero_le _, rfl, rfl, by decide, rfl⟩
  case round =>
    obtain ⟨k, R, hk, rfl, rfl, hRl, hR⟩ := hrel
    have HR := Lib.hid hR
    clear hR
    by_cases hlt : k < s.size
    · go_wp2_with fail
      go_loop [3, 5] (fun r j => ∃ m Q : Nat, m ≤ 8 ∧ j = .int .i64 m ∧ r = .int .u32 (Q : Nat) ∧ Q < 4294967296 ∧ Q = bitsS s[k].toNat m R) (fun _ j => 8 - (intOf j).toNat)
      case atStart => exact ⟨0, R, Nat.zero_le _, rfl, rfl, hRl, rfl⟩
      case round =>
        obtain ⟨m, Q, hm, rfl, rfl, hQl, hQ⟩ := hrel
        have HQ := Lib.hid hQ
        clear hQ
        by_cases hl2 : m < 8
        · go_wp2_with fail
          · have hb := bit_true Q s[k].toNat m hQl (by assumption)
            have HB := Lib.hid hb
            clear hb
            go_round
            case rel => exact ⟨m + 1, bitS Q (s[k].toNat / 2 ^ m % 2), by omega, by go_num, by rw [HB.out], bitS_lt _ _ hQl, by rw [HQ.out]; rfl⟩
            case measure => simp [intOf]; omega
          · have hb := bit_false Q s[k].toNat m (by assumption)
            have HB := Lib.hid hb
            clear hb
            go_round
            case rel => exact ⟨m + 1, bitS Q (s[k].toNat / 2 ^ m % 2), by omega, by go_num, by rw [HB.out], bitS_lt _ _ hQl, by rw [HQ.out]; rfl⟩
            case measure => simp [intOf]; omega
        · go_wp2_with fail
          have e : m = 8 := by omega
          subst e
          go_round
          case rel => exact ⟨k + 1, Q, by omega, by go_num, rfl, hQl, by rw [HQ.out, bitsS_byte _ _ (s[k].toNat_lt), reg_take _ _ _ (by rw [nums_length]; exact hlt), nums_getD s k hlt, HR.out]⟩
          case measure => simp [intOf]; omega
    · have hf := flip32_eq R hRl
      go_wp2_with fail
      go_ret
      exact ⟨ret_int (by rw [HR.out, List.take_of_length_le (by rw [nums_length]; omega)]; rfl), rfl⟩

end Go.Proofs.YtcmnfbpmkndfkaaDoor.Cr
namespace Go.Proofs.YtcmnfbpmkndfkaaDoor.Cr
set_option maxRecDepth 100000
open Go.ChangeShapes Go.WideShapes Go.ChangeAt Go.RowKit
set_option linter.unusedVariables false

def cat (l : Nat → List Nat) : Nat → List Nat
  | 0 => []
  | k + 1 => cat l k ++ l k

theorem cat_lt (l : Nat → List Nat) (n : Nat) (h : ∀ i, i < n → ∀ c ∈ l i, c < 256) : ∀ c ∈ cat l n, c < 256 := by
  induction n with
  | zero => intro c hc; cases hc
  | succ n ih =>
    intro c hc
    rcases List.mem_append.1 hc with hc | hc
    · exact ih (fun i hi => h i (by omega)) c hc
    · exact h n (by omega) c hc

set_option maxHeartbeats 400000 in
theorem sum_any (b o n cap : Nat) (A : Nat → Option Addr) (L C : Nat → Nat) (l : Nat → List Nat) (w : World) (hn : n ≤ 9223372036854775807)
    (hc : ∀ i, i < n → w.cell? ⟨b, o + i, none⟩ = some (.slice (A i) (L i) (C i))) (hr : ∀ i, i < n → ByteRow w (A i) (L i) (l i)) (ht : Tab w) :
    Calls Tryd.prog 50 #[.slice (some ⟨b, o, none⟩) n cap] w fun e w' => e = .returned (.int .u32 (sum (cat l n) : Nat)) ∧ w = w' := by
  have HC := Lib.hid hc
  have HR := Lib.hid hr
  have HT := Lib.hid ht
  clear hc hr ht
  go_enter Tryd.func50, Tryd.ntmps50
  go_wp2_with fail
  go_loop [3, 8] (fun r i => ∃ k : Nat, k ≤ n ∧ i = .int .i64 k ∧ r = .int .u32 (sum (cat l k) : Nat)) (fun _ i => n - (intOf i).toNat)
  case atStart => exact ⟨0, Nat.zero_le _, rfl, by rw [show cat l 0 = [] from rfl, show sum [] = 0 from by decide]; rfl⟩
  case round =>
    obtain ⟨k, hk, rfl, rfl⟩ := hrel
    have hsl : sum (cat l k) < 4294967296 := more_lt _ _ (by decide) (cat_lt l k (fun i hi => (HR.out i (by omega)).2.2.1))
    by_cases hlt : k < n
    · have hcell := HC.out k hlt
      go_wp2_with (go_at_call 70; refine (more_any _ hsl _ _ _ _ _ (HR.out k hlt) HT.out).mono ?_; rintro e w' ⟨rfl, rfl⟩)
      go_round
      case rel => exact ⟨k + 1, by omega, by go_num, by unfold sum; rw [← more_append]; rfl⟩
      case measure => simp [intOf]; omega
    · go_wp2_with fail
      go_ret
      have e : k = n := by omega
      exact ⟨ret_int (by rw [e]), rfl⟩

theorem sum_one (b n1 : Nat) (a0 : Option Addr) (n0 c0 : Nat) (l0 : List Nat) (w : World) (h0 : w.cell? ⟨b, 0, none⟩ = some (.slice a0 n0 c0)) (r0 : ByteRow w a0 n0 l0) (ht : Tab w) :
    Calls Tryd.prog 50 #[.slice (some ⟨b, 0, none⟩) 1 n1] w fun e w' => e = .returned (.int .u32 (sum l0 : Nat)) ∧ w = w' := by
  have h := sum_any b 0 1 n1 (fun _ => a0) (fun _ => n0) (fun _ => c0) (fun _ => l0) w (by decide)
    (fun i hi => by
      have e : i = 0 := by omega
      subst e
      exact h0)
    (fun i hi => r0) ht
  exact h

theorem sum_two (b n1 : Nat) (a0 : Option Addr) (n0 c0 : Nat) (l0 : List Nat) (a1 : Option Addr) (m1 c1 : Nat) (l1 : List Nat) (w : World) (h0 : w.cell? ⟨b, 0, none⟩ = some (.slice a0 n0 c0)) (h1 : w.cell? ⟨b, 1, none⟩ = some (.slice a1 m1 c1)) (r0 : ByteRow w a0 n0 l0) (r1 : ByteRow w a1 m1 l1) (ht : Tab w) :
    Calls Tryd.prog 50 #[.slice (some ⟨b, 0, none⟩) 2 n1] w fun e w' => e = .returned (.int .u32 (sum (l0 ++ l1) : Nat)) ∧ w = w' := by
  have h := sum_any b 0 2 n1 (fun i => if i = 0 then a0 else a1) (fun i => if i = 0 then n0 else m1) (fun i => if i = 0 then c0 else c1) (fun i => if i = 0 then l0 else l1) w (by decide)
    (fun i hi => by
      have e : i = 0 ∨ i = 1 := by omega
      rcases e with rfl | rfl
      · exact h0
      · exact h1)
    (fun i hi => by
      have e : i = 0 ∨ i = 1 := by omega
      rcases e with rfl | rfl
      · exact r0
      · exact r1) ht
  exact h

theorem sum_three (b n1 : Nat) (a0 : Option Addr) (n0 c0 : Nat) (l0 : List Nat) (a1 : Option Addr) (m1 c1 : Nat) (l1 : List Nat) (a2 : Option Addr) (m2 c2 : Nat) (l2 : List Nat) (w : World) (h0 : w.cell? ⟨b, 0, none⟩ = some (.slice a0 n0 c0)) (h1 : w.cell? ⟨b, 1, none⟩ = some (.slice a1 m1 c1)) (h2 : w.cell? ⟨b, 2, none⟩ = some (.slice a2 m2 c2)) (r0 : ByteRow w a0 n0 l0) (r1 : ByteRow w a1 m1 l1) (r2 : ByteRow w a2 m2 l2) (ht : Tab w) :
    Calls Tryd.prog 50 #[.slice (some ⟨b, 0, none⟩) 3 n1] w fun e w' => e = .returned (.int .u32 (sum (l0 ++ l1 ++ l2) : Nat)) ∧ w = w' := by
  have h := sum_any b 0 3 n1 (fun i => if i = 0 then a0 else if i = 1 then a1 else a2) (fun i => if i = 0 then n0 else if i = 1 then m1 else m2) (fun i => if i = 0 then c0 else if i = 1 then c1 else c2) (fun i => if i = 0 then l0 else if i = 1 then l1 else l2) w (by decide)
    (fun i hi => by
      have e : i = 0 ∨ i = 1 ∨ i = 2 := by omega
      rcases e with rfl | rfl | rfl
      · exact h0
      · exact h1
      · exact h2)
    (fun i hi => by
      have e : i = 0 ∨ i = 1 ∨ i = 2 := by omega
      rcases e with rfl | rfl | rfl
      · exact r0
      · exact r1
      · exact r2) ht
  exact h

theorem ByteRow.nil (w : World) (a : Option Addr) : ByteRow w a 0 [] := ⟨rfl, Nat.zero_le _, (by intro c hc; cases hc), (by intro h; omega)⟩

theorem Tab.alloc {w : World} (h : Tab w) (o : Obj) : Tab (w.alloc o) := fun i hi => Lib.cell?_alloc_marked o (h i hi)

theorem cell_new (w : World) (C : Array Value) (e : TypeId) (fr : Nat × Nat) (b i : Nat) (v : Value) (hb : b = w.heap.size) (h : C[i]? = some v) : (w.alloc (.cells C e fr)).cell? ⟨b, i, none⟩ = some v := by
  subst hb
  have e1 : (w.alloc (.cells C e fr)).heap[w.heap.size]? = some (.cells C e fr) := by
    show (w.heap.push (.cells C e fr))[w.heap.size]? = _
    simp
  simp only [World.cell?, e1]
  exact h

end Go.Proofs.YtcmnfbpmkndfkaaDoor.Cr
namespace Go.Proofs.YtcmnfbpmkndfkaaDoor.Cr
set_option maxRecDepth 100000
open Go.ChangeShapes Go.WideShapes Go.ChangeAt Go.RowKit
set_option linter.unusedVariables false

/-- a slice of integers that came in: nil, or a row of 'cap' cells, the numbers 'zs' -/
def IsRow (k : IntKind) (w : World) (a : Option Addr) (len cap : Nat) (zs : List Int) : Prop :=
  (a = none ∧ len = 0 ∧ cap = 0 ∧ zs = []) ∨
  ∃ x, a = some x ∧ len ≤ cap ∧ cap ≤ maxLen ∧ zs.length = cap ∧ (∀ i, i < zs.length → w.cell? (x.add i) = some (.int k (zs.getD i 0))) ∧ ∀ n ∈ zs, (Lit.int k n).wf = true

theorem row_bytes {w : World} {a : Option Addr} {len cap : Nat} {zs : List Int} (h : IsRow .u8 w a len cap zs) : ∃ l, ByteRow w a len l ∧ len ≤ cap ∧ cap ≤ maxLen := by
  rcases h with ⟨rfl, rfl, rfl, rfl⟩ | ⟨x, rfl, h1, h2, h3, h4, h5⟩
  · exact ⟨[], ByteRow.nil w none, Nat.le_refl _, Nat.zero_le _⟩
  · have hb : ∀ n ∈ zs, 0 ≤ n ∧ n ≤ 255 := fun n hn => by
      have := h5 n hn
      simpa [Lit.wf, IntKind.min, IntKind.max, IntKind.signed, IntKind.bits] using this
    refine ⟨(zs.take len).map Int.toNat, ⟨by rw [List.length_map, List.length_take]; omega, by omega, ?_, ?_⟩, h1, h2⟩
    · intro c hc
      obtain ⟨n, hn, rfl⟩ := List.mem_map.1 hc
      have := hb n (List.mem_of_mem_take hn)
      omega
    · intro h0
      obtain ⟨b, off, spot⟩ := x
      have hc0 := h4 0 (by omega)
      have hspot : spot = none := by simpa [Addr.add] using World.cell?_spot hc0
      subst hspot
      refine ⟨b, off, rfl, fun i hi => ?_⟩
      have hci := h4 i (by omega)
      have e1 : (⟨b, off, none⟩ : Addr).add i = ⟨b, off + i, none⟩ := by simp [Addr.add]
      rw [e1] at hci
      rw [hci]
      have hlt : i < zs.length := by omega
      have hm := hb zs[i] (List.getElem_mem hlt)
      have e2 : zs.getD i 0 = zs[i] := by simp [List.getD, List.getElem?_eq_getElem hlt]
      have e3 : ((zs.take len).map Int.toNat).getD i 0 = zs[i].toNat := by
        simp [List.getD, List.getElem?_map, hi, List.getElem?_eq_getElem hlt]
      rw [e2, e3]
      congr 2
      omega

theorem Below.undrew {w w1 : World} (h : Below w.drew.heap.size w.drew w1) : Below w.heap.size w w1 := ⟨h.os, h.tape, h.output, h.size, h.block⟩
theorem Below.drew' {w : World} : Below w.heap.size w w.drew := (Below.refl _ _).drew
theorem Below.alloc' {w W : World} (h : Below w.heap.size w W) (o : Obj) : Below w.heap.size w (W.alloc o) := h.alloc h.size o
theorem Below.step {w W w1 : World} (k : Below W.heap.size W w1) (h : Below w.heap.size w W) : Below w.heap.size w w1 := h.trans (k.mono h.size)
theorem cell_lt {w : World} {a : Addr} {v : Value} (h : w.cell? a = some v) : a.block < w.heap.size := by
  rcases Nat.lt_or_ge a.block w.heap.size with h' | h'
  · exact h'
  · simp [World.cell?, Array.getElem?_eq_none h'] at h

theorem Tab.below {w w' : World} (h : Tab w) (hb : Below w.heap.size w w') : Tab w' := fun i hi => by
  rw [hb.cell (cell_lt (h i hi))]; exact h i hi
theorem ByteRow.below {w w' : World} {a : Option Addr} {n : Nat} {l : List Nat} (h : ByteRow w a n l) (hb : Below w.heap.size w w') : ByteRow w' a n l := by
  obtain ⟨h1, h2, h3, h4⟩ := h
  refine ⟨h1, h2, h3, fun h0 => ?_⟩
  obtain ⟨b, o, rfl, hc⟩ := h4 h0
  exact ⟨b, o, rfl, fun i hi => by rw [hb.cell (cell_lt (hc i hi))]; exact hc i hi⟩

theorem getD_take (l : List Nat) (k i : Nat) (h : i < k) : (l.take k).getD i 0 = l.getD i 0 := by
  simp [List.getD, h]
theorem getD_drop (l : List Nat) (k i : Nat) : (l.drop k).getD i 0 = l.getD (k + i) 0 := by
  simp [List.getD, List.getElem?_drop]

theorem ByteRow.take {w : World} {a : Option Addr} {n : Nat} {l : List Nat} (h : ByteRow w a n l) (k : Nat) (hk : k ≤ n) : ByteRow w a k (l.take k) := by
  obtain ⟨h1, h2, h3, h4⟩ := h
  refine ⟨by rw [List.length_take]; omega, by omega, fun c hc => h3 c (List.mem_of_mem_take hc), fun h0 => ?_⟩
  obtain ⟨b, o, rfl, hc⟩ := h4 (by omega)
  exact ⟨b, o, rfl, fun i hi => by rw [getD_take l k i hi]; exact hc i (by omega)⟩

def fromA (a : Option Addr) (cap k : Nat) : Option Addr := if cap = k then a else a.map (·.add k)
theorem ByteRow.drop {w : World} {a : Option Addr} {n : Nat} {l : List Nat} (h : ByteRow w a n l) (cap k : Nat) (hk : k ≤ n) (hc : n ≤ cap) : ByteRow w (fromA a cap k) (n - k) (l.drop k) := by
  obtain ⟨h1, h2, h3, h4⟩ := h
  refine ⟨by rw [List.length_drop]; omega, by omega, fun c hc => h3 c (List.mem_of_mem_drop hc), fun h0 => ?_⟩
  obtain ⟨b, o, rfl, hcell⟩ := h4 (by omega)
  refine ⟨b, o + k, ?_, fun i hi => ?_⟩
  · unfold fromA
    rw [if_neg (by omega)]
    simp [Addr.add]
  · rw [getD_drop, Nat.add_assoc]
    exact hcell (k + i) (by omega)

theorem slice_to (a : Option Addr) (m cap k : Nat) (hk : k ≤ cap) (w : World) : (Instr.slice 34 (.slice a m cap) none (some (.int .i64 (k : Int))) none).run Tryd.prog w = .ok (.slice a k cap) w := by
  rw [run_slice_h w 34 a m cap (by kernel_rfl) .i64 (k : Int) (by omega) (by omega)]
  go_simp
theorem slice_from (a : Option Addr) (m cap k : Nat) (hk : k ≤ m) (w : World) : (Instr.slice 34 (.slice a m cap) (some (.int .i64 (k : Int))) none none).run Tryd.prog w = .ok (.slice (fromA a cap k) (m - k) (cap - k)) w := by
  rw [run_slice_l w 34 a m cap (by kernel_rfl) .i64 (k : Int) (by omega) (by omega)]
  go_simp
  rfl

theorem size_alloc (w : World) (X : Obj) : (w.alloc X).heap.size = w.heap.size + 1 := Array.size_push ..
theorem cell_at0 (w : World) (C : Array Value) (e : TypeId) (i : Nat) (v : Value) (h : C[i]? = some v) : (w.alloc (.cells C e)).cell? ⟨w.heap.size, i, none⟩ = some v := cell_new w C e _ _ i v rfl h
theorem cell_at1 (w : World) (X : Obj) (C : Array Value) (e : TypeId) (i : Nat) (v : Value) (h : C[i]? = some v) : ((w.alloc X).alloc (.cells C e)).cell? ⟨w.heap.size + 1, i, none⟩ = some v := cell_new _ C e _ _ i v (size_alloc w X).symm h
theorem cell_at2 (w : World) (X Y : Obj) (C : Array Value) (e : TypeId) (i : Nat) (v : Value) (h : C[i]? = some v) : (((w.alloc X).alloc Y).alloc (.cells C e)).cell? ⟨w.heap.size + 1 + 1, i, none⟩ = some v := cell_new _ C e _ _ i v (by rw [size_alloc, size_alloc]) h
theorem u8_toNat (n : Nat) (h : n < 256) : (UInt8.ofNat n).toNat = n := by simp [UInt8.toNat_ofNat']; omega

/-- a row of bytes as a text -/
theorem str_of_row {w : World} {a : Option Addr} {m : Nat} {l : List Nat} (cap : Nat) (h : ByteRow w a m l) :
    ∃ s : ByteArray, (convert 34 9 (.slice a m cap)).run Tryd.prog w = .ok (.string s) w ∧ nums s = l ∧ s.size = m := by
  obtain ⟨h1, h2, h3, h4⟩ := h
  by_cases h0 : m = 0
  · subst h0
    obtain rfl : l = [] := List.eq_nil_of_length_eq_zero h1
    refine ⟨.empty, ?_, rfl, rfl⟩
    rw [run_convert_bytes_string w 34 9 5 a 0 cap Tryd.underlying34 Tryd.underlying5 Tryd.underlying9]
    cases a with
    | none => rfl
    | some a => exact run_bytesToString w a 0 cap [] rfl
  · obtain ⟨b, o, rfl, hc⟩ := h4 (by omega)
    refine ⟨strOfNums (l.map fun (n : Nat) => (n : Int)), run_convert_bytes_arg w 34 5 Tryd.underlying34 Tryd.underlying5 b o m cap _ (by rw [List.length_map]; exact h1) (fun i hi => ?_) 9 Tryd.underlying9, ?_, ?_⟩
    · rw [hc i hi]
      have e : (l.map fun (n : Nat) => (n : Int)).getD i 0 = ((l.getD i 0 : Nat) : Int) := by
        simp [List.getD, List.getElem?_map]
        cases l[i]? <;> rfl
      rw [e]
    · unfold nums
      rw [strOfNums_data, List.map_map, List.map_map]
      refine Eq.trans (List.map_congr_left (g := id) fun c hc => ?_) (List.map_id l)
      exact u8_toNat c (h3 c hc)
    · rw [strOfNums_size, List.length_map]; exact h1

theorem cut_fact (cut : Int) (m : Nat) (hm : m ≤ 3000) : ∃ K : Nat, wrap64 ((IntKind.u64.wrap cut).tmod ((m : Int) + 1)) = (K : Int) ∧ K ≤ m := by
  have h := IntKind.wrap_u64 cut
  have h0 : 0 ≤ IntKind.u64.wrap cut := by omega
  have e : (IntKind.u64.wrap cut).tmod ((m : Int) + 1) = IntKind.u64.wrap cut % ((m : Int) + 1) := Int.tmod_eq_emod_of_nonneg h0
  have h1 : 0 ≤ IntKind.u64.wrap cut % ((m : Int) + 1) := Int.emod_nonneg _ (by omega)
  have h2 : IntKind.u64.wrap cut % ((m : Int) + 1) < (m : Int) + 1 := Int.emod_lt_of_pos _ (by omega)
  refine ⟨(IntKind.u64.wrap cut % ((m : Int) + 1)).toNat, ?_, by omega⟩
  rw [e, Go.IntWalk.wrap64_in _ (by omega)]
  omega

end Go.Proofs.YtcmnfbpmkndfkaaDoor.Cr
namespace Go.Proofs.YtcmnfbpmkndfkaaDoor.Cr
set_option maxRecDepth 100000

theorem byteS_xor (r s a e : Nat) : byteS (r ^^^ s) (a ^^^ e) = byteS r a ^^^ byteS s e := by
  unfold byteS
  rw [← SN_xor]
  congr 1
  ac_rfl

theorem reg_xor_start (r s : Nat) (l : List Nat) : reg (r ^^^ s) l = reg r l ^^^ SN (8 * l.length) s := by
  induction l generalizing r s with
  | nil => rfl
  | cons c l ih =>
    show reg (byteS (r ^^^ s) c) l = reg (byteS r c) l ^^^ SN (8 * (l.length + 1)) s
    have h := byteS_xor r s c 0
    rw [Nat.xor_zero] at h
    rw [h, ih]
    congr 1
    unfold byteS
    rw [Nat.xor_zero, show 8 * (l.length + 1) = 8 + 8 * l.length by omega, SN_add]

/-- one byte changed: what it does to the register behind all -/
theorem reg_set (l : List Nat) (q x : Nat) (hq : q < l.length) (r : Nat) : reg r (l.set q (l.getD q 0 ^^^ x)) = reg r l ^^^ SN (8 * (l.length - q)) x := by
  induction l generalizing q r with
  | nil => simp at hq
  | cons c l ih =>
    cases q with
    | zero =>
      show reg (byteS r (c ^^^ x)) l = reg (byteS r c) l ^^^ SN (8 * (l.length + 1)) x
      have h := byteS_xor r 0 c x
      rw [Nat.xor_zero] at h
      rw [h, reg_xor_start]
      congr 1
      unfold byteS
      rw [Nat.zero_xor, show 8 * (l.length + 1) = 8 + 8 * l.length by omega, SN_add]
    | succ q =>
      show reg (byteS r c) (l.set q (l.getD q 0 ^^^ x)) = reg (byteS r c) l ^^^ SN (8 * (l.length + 1 - (q + 1))) x
      rw [ih q (by simpa using hq), show l.length + 1 - (q + 1) = l.length - q by omega]

theorem SN_inj (n a b : Nat) (ha : a < 4294967296) (hb : b < 4294967296) (h : SN n a = SN n b) : a = b := by
  have h1 : SN n (a ^^^ b) = 0 := by rw [SN_xor, h, Nat.xor_self]
  have h2 := SN_eq_zero n _ (Nat.xor_lt_two_pow (n := 32) ha hb) h1
  have h3 : a = a ^^^ (b ^^^ b) := by rw [Nat.xor_self, Nat.xor_zero]
  rw [h3, ← Nat.xor_assoc, h2, Nat.zero_xor]

theorem flip32_inj (a b : Nat) (h : flip32 a = flip32 b) : a = b := by rw [← flip32_flip32 a, h, flip32_flip32]
theorem xor_eq_self (a b : Nat) : a ^^^ b = a ↔ b = 0 := by
  constructor
  · intro h
    have h1 : a ^^^ (a ^^^ b) = a ^^^ a := by rw [h]
    rw [← Nat.xor_assoc, Nat.xor_self, Nat.zero_xor] at h1
    exact h1
  · intro h; rw [h, Nat.xor_zero]

/-- so many low bits of by, at place k: they come in eight by eight, or one by one -/
theorem SN_low (n j x : Nat) (hj : j ≤ n) : SN (n - j) x = SN n (2 ^ j * x) := by
  have h : n = j + (n - j) := by omega
  rw [show SN n (2 ^ j * x) = SN (j + (n - j)) (2 ^ j * x) by rw [← h], SN_add, SN_shift]

theorem low_step (c k : Nat) : c % 2 ^ (k + 1) = (c % 2 ^ k) ^^^ (2 ^ k * (c / 2 ^ k % 2)) := by rw [low_split, Nat.xor_comm]

theorem low_split8 (c k : Nat) : c % 2 ^ (k + 8) = (c % 2 ^ k) ^^^ (2 ^ k * (c / 2 ^ k % 256)) := by
  apply Nat.eq_of_testBit_eq
  intro i
  rw [Nat.testBit_xor, Nat.testBit_mod_two_pow, Nat.testBit_mod_two_pow, Nat.testBit_two_pow_mul]
  have h : (c / 2 ^ k % 256).testBit (i - k) = (decide (i - k < 8) && c.testBit (i - k + k)) := by
    rw [show c / 2 ^ k % 256 = c / 2 ^ k % 2 ^ 8 from rfl, Nat.testBit_mod_two_pow, Nat.testBit_div_two_pow]
  rw [h]
  by_cases g1 : i < k
  · simp [g1, show ¬ k ≤ i by omega, show i < k + 8 by omega]
  · by_cases g2 : i < k + 8
    · simp [g1, g2, show k ≤ i by omega, show i - k < 8 by omega, show i - k + k = i by omega]
    · simp [g1, g2, show ¬ (i - k < 8) by omega]

end Go.Proofs.YtcmnfbpmkndfkaaDoor.Cr
namespace Go.Proofs.YtcmnfbpmkndfkaaDoor.Cr
set_option maxRecDepth 100000
open Go.ChangeShapes Go.WideShapes Go.ChangeAt Go.RowKit
set_option linter.unusedVariables false

def vals (l : List Nat) : List Value := l.map fun (c : Nat) => Value.int .u8 (c : Int)
theorem vals_length (l : List Nat) : (vals l).length = l.length := List.length_map ..
theorem vals_get (l : List Nat) (i : Nat) (h : i < l.length) : (vals l)[i]? = some (.int .u8 ((l.getD i 0 : Nat) : Int)) := by
  simp [vals, List.getElem?_map, List.getElem?_eq_getElem h, List.getD]
theorem vals_append (l m : List Nat) : vals (l ++ m) = vals l ++ vals m := List.map_append
theorem vals_one (l : List Nat) : ∀ u ∈ vals l, u.oneCell' = true := by
  intro u hu
  obtain ⟨c, _, rfl⟩ := List.mem_map.1 hu
  rfl

/-- block g is the call's own: its first n cells hold the bytes l -/
def Mine (w : World) (base g n cap : Nat) (l : List Nat) : Prop :=
  base ≤ g ∧ n ≤ cap ∧ cap ≤ maxLen ∧ l.length = n ∧ (∀ c ∈ l, c < 256) ∧ ∃ cur : Array Value, w.heap[g]? = some (.cells cur 5 (0, 0)) ∧ cur.size = cap ∧ ∀ i, i < n → cur[i]? = some (.int .u8 ((l.getD i 0 : Nat) : Int))

theorem Mine.of {w : World} {base n : Nat} {v : Value} {l : List Nat} (h : w.ownsRow base 5 1 v n (vals l)) (hv : v ≠ .slice none 0 0) (hl : ∀ c ∈ l, c < 256) : ∃ g cap, v = .slice (some ⟨g, 0, none⟩) n cap ∧ Mine w base g n cap l := by
  obtain ⟨h1, h2⟩ := h
  rcases h2 with ⟨h2, _⟩ | ⟨g, cap, cur, rfl, hb, hh, hn, hm, hs, ht⟩
  · exact absurd h2 hv
  · rw [vals_length] at h1
    refine ⟨g, cap, rfl, hb, hn, hm, by omega, hl, cur, hh, by omega, fun i hi => ?_⟩
    have e := vals_get l i (by omega)
    rw [← ht] at e
    rw [List.getElem?_take] at e
    rw [if_pos (by omega)] at e
    simpa using e

theorem Mine.cell {w : World} {base g n cap : Nat} {l : List Nat} (h : Mine w base g n cap l) (i : Nat) (hi : i < n) : w.cell? ⟨g, i, none⟩ = some (.int .u8 ((l.getD i 0 : Nat) : Int)) := by
  obtain ⟨_, _, _, _, _, cur, hh, _, hc⟩ := h
  simp only [World.cell?, hh]
  exact hc i hi
theorem Mine.frozen {w : World} {base g n cap : Nat} {l : List Nat} (h : Mine w base g n cap l) (i : Nat) : w.frozen? ⟨g, i, none⟩ = false := by
  obtain ⟨_, _, _, _, _, cur, hh, _, _⟩ := h
  simp [World.frozen?, hh]
theorem Mine.lt {w : World} {base g n cap : Nat} {l : List Nat} (h : Mine w base g n cap l) : g < w.heap.size := by
  obtain ⟨_, _, _, _, _, cur, hh, _, _⟩ := h
  exact (Array.getElem?_eq_some_iff.1 hh).1
theorem Mine.row {w : World} {base g n cap : Nat} {l : List Nat} (h : Mine w base g n cap l) : ByteRow w (some ⟨g, 0, none⟩) n l := by
  have h' := h
  obtain ⟨_, h1, h2, h3, h4, _⟩ := h'
  exact ⟨h3, by omega, h4, fun _ => ⟨g, 0, rfl, fun i hi => by rw [Nat.zero_add]; exact h.cell i hi⟩⟩
theorem Mine.below {w w' : World} {base g n cap : Nat} {l : List Nat} (h : Mine w base g n cap l) (hb : Below w.heap.size w w') : Mine w' base g n cap l := by
  have hg := h.lt
  obtain ⟨h0, h1, h2, h3, h4, cur, hh, h5, h6⟩ := h
  exact ⟨h0, h1, h2, h3, h4, cur, by rw [hb.block g hg]; exact hh, h5, h6⟩
theorem Mine.set {w : World} {base g n cap : Nat} {l : List Nat} (h : Mine w base g n cap l) (q x : Nat) (hq : q < n) (hx : x < 256) : Mine (w.setCell ⟨g, q, none⟩ (.int .u8 (x : Int))) base g n cap (l.set q x) := by
  obtain ⟨h0, h1, h2, h3, h4, cur, hh, h5, h6⟩ := h
  refine ⟨h0, h1, h2, by rw [List.length_set]; exact h3, fun c hc => ?_, cur.setIfInBounds q (.int .u8 (x : Int)), ?_, by rw [Array.size_setIfInBounds]; exact h5, fun i hi => ?_⟩
  · rcases List.mem_or_eq_of_mem_set hc with hc | rfl
    · exact h4 c hc
    · exact hx
  · simp only [World.setCell, Array.getElem?_modify, if_pos, hh]
    rfl
  · rw [Array.getElem?_setIfInBounds]
    by_cases e : q = i
    · subst e
      rw [if_pos rfl, if_pos (by omega)]
      simp [List.getD, show q < l.length by omega]
    · rw [if_neg e, h6 i hi]
      simp [List.getD, e]

theorem info5 : (Tryd.prog.info? 5).map (fun i => (i.zero, i.size, i.bytes)) = some (some (.int .u8 0), 1, 1) := by kernel_rfl

theorem addr_add (b o j : Nat) : (⟨b, o, none⟩ : Addr).add j = ⟨b, o + j, none⟩ := by
  unfold Addr.add
  split
  · simp_all
  · rfl
/-- a sum over a row of the call's own -/
theorem sum_mine (W : World) (base g n cap : Nat) (l : List Nat) (hM : Mine W base g n cap l) (ht : Tab W) :
    Calls Tryd.prog 50 #[.slice (some ⟨W.heap.size, 0, none⟩) 1 1] (W.alloc (.cells #[.slice (some ⟨g, 0, none⟩) n cap] 34)) fun e w' => e = .returned (.int .u32 (sum l : Nat)) ∧ (W.alloc (.cells #[.slice (some ⟨g, 0, none⟩) n cap] 34)) = w' :=
  sum_one _ 1 (some ⟨g, 0, none⟩) n cap l _ (cell_at0 _ _ _ _ _ rfl) (hM.row.below ((Below.refl _ _).alloc (Nat.le_refl _) _)) (ht.alloc _)
theorem src_cells {W : World} {b o m : Nat} {t : List Nat} (h : ByteRow W (some ⟨b, o, none⟩) m t) (h0 : 0 < m) : ∀ (j : Nat) (u : Value), (vals t)[j]? = some u → W.cell? ((⟨b, o, none⟩ : Addr).add j) = some u := by
  intro j u hj
  have hjl : j < t.length := by
    rcases Nat.lt_or_ge j t.length with h | h
    · exact h
    · rw [List.getElem?_eq_none (by rw [vals_length]; exact h)] at hj; cases hj
  rw [vals_get t j hjl] at hj
  obtain rfl := Option.some.inj hj
  obtain ⟨b', o', e, hcell⟩ := h.2.2.2 h0
  cases e
  rw [addr_add]
  exact hcell j (by rw [← h.1]; exact hjl)
theorem owns_empty (w : World) : (w.alloc (.cells #[] 5)).ownsRow w.heap.size 5 1 (.slice (some ⟨w.heap.size, 0, none⟩) 0 0) 0 (vals []) := by
  refine ⟨rfl, .inr ⟨w.heap.size, 0, #[], rfl, Nat.le_refl _, ?_, Nat.le_refl _, Nat.zero_le _, rfl, rfl⟩⟩
  show (w.heap.push _)[w.heap.size]? = _
  simp

theorem cut_fact2 (cut : Int) (m : Nat) (h0 : 0 < m) (hm : m ≤ 3000) : ∃ K : Nat, wrap64 ((IntKind.u64.wrap cut).tmod (m : Int)) = (K : Int) ∧ K < m := by
  have h := IntKind.wrap_u64 cut
  have h0 : 0 ≤ IntKind.u64.wrap cut := by omega
  have e : (IntKind.u64.wrap cut).tmod (m : Int) = IntKind.u64.wrap cut % (m : Int) := Int.tmod_eq_emod_of_nonneg h0
  have h1 : 0 ≤ IntKind.u64.wrap cut % (m : Int) := Int.emod_nonneg _ (by omega)
  have h2 : IntKind.u64.wrap cut % (m : Int) < (m : Int) := Int.emod_lt_of_pos _ (by omega)
  refine ⟨(IntKind.u64.wrap cut % (m : Int)).toNat, ?_, by omega⟩
  rw [e, Go.IntWalk.wrap64_in _ (by omega)]
  omega

theorem u32_wf {a : Int} (h : (Lit.int .u32 a).wf = true) : ∃ n : Nat, a = n ∧ n < 4294967296 := by
  have h' : 0 ≤ a ∧ a ≤ 4294967295 := by simpa [Lit.wf, IntKind.min, IntKind.max, IntKind.signed, IntKind.bits] using h
  exact ⟨a.toNat, by omega, by omega⟩

end Go.Proofs.YtcmnfbpmkndfkaaDoor.Cr
namespace Go.Proofs.YtcmnfbpmkndfkaaDoor.Cr
set_option maxRecDepth 100000
open Go.ChangeShapes Go.WideShapes Go.ChangeAt Go.RowKit
set_option linter.unusedVariables false

def four (s : Nat) : List Nat := [s % 256, s / 256 % 256, s / 65536 % 256, s / 16777216]
theorem four_lt (s : Nat) (hs : s < 4294967296) : ∀ c ∈ four s, c < 256 := by
  intro c hc
  simp only [four, List.mem_cons, List.mem_nil_iff, or_false] at hc
  rcases hc with rfl | rfl | rfl | rfl <;> omega

/-- what an append of these bytes reads -/
def Src (w : World) (x : Addr) (l : List Nat) : Prop := ∀ W, Below w.heap.size w W → ∀ (j : Nat) (u : Value), (vals l)[j]? = some u → W.cell? (x.add j) = some u
theorem Src.of {w : World} {x : Addr} {n : Nat} {l : List Nat} (h : ByteRow w (some x) n l) : Src w x l := by
  intro W hb j u hj
  by_cases h0 : 0 < n
  · obtain ⟨b, o, e, _⟩ := h.2.2.2 h0
    cases e
    exact src_cells (h.below hb) h0 j u hj
  · have e : l = [] := List.eq_nil_of_length_eq_zero (by rw [h.1]; omega)
    subst e
    simp [vals] at hj

theorem ownsRow_alloc {w : World} {base n : Nat} {v : Value} {xs : List Value} (h : w.ownsRow base 5 1 v n xs) (o : Obj) : (w.alloc o).ownsRow base 5 1 v n xs := h.alloc o
theorem owns_made (w : World) (base g n : Nat) (hn : n ≤ maxLen) (hb : base ≤ w.heap.size) (hg : g = w.heap.size) : (w.alloc (.cells (madeCells #[.int .u8 0] n) 5)).ownsRow base 5 1 (.slice (some ⟨g, 0, none⟩) 0 n) 0 (vals []) := by
  subst hg
  refine ⟨rfl, .inr ⟨w.heap.size, n, madeCells #[.int .u8 0] n, rfl, hb, ?_, Nat.zero_le _, hn, ?_, rfl⟩⟩
  · show (w.heap.push _)[w.heap.size]? = _
    simp
  · simp [madeCells]

set_option maxRecDepth 100000 in
set_option maxHeartbeats 1000000 in
theorem close_some (x : Addr) (n cap : Nat) (l : List Nat) (w : World) (hr : ByteRow w (some x) n l) (hn : n ≤ 3000) (ht : Tab w) :
    Calls Tryd.prog 51 #[.slice (some x) n cap] w fun e w' => ∃ g cap2, e = .returned (.slice (some ⟨g, 0, none⟩) (n + 4) cap2) ∧ Mine w' w.heap.size g (n + 4) cap2 (l ++ four (sum l)) ∧ Below w.heap.size w w' := by
  obtain ⟨i0, hi, hz0, hz1, hz2⟩ := info_parts info5
  have hmk : ∀ u : World, (Instr.makeSlice 34 (.int .i64 0) (.int .i64 ((n : Int) + 4))).run Tryd.prog u =
      .ok (.slice (some ⟨u.heap.size, 0, none⟩) 0 (n + 4)) (u.alloc (.cells (madeCells #[.int .u8 0] (n + 4)) 5)) := fun u => by
    have h := run_make (P := Tryd.prog) u 34 5 i0 (.int .u8 0) Tryd.underlying34 hi hz0 .i64 .i64 0 ((n : Int) + 4) (by omega) (by omega) (by rw [hz2]; omega) (by omega)
    have e : ((n : Int) + 4).toNat = n + 4 := by omega
    rw [e] at h
    simpa [hz1, Value.cells] using h
  have hs1 := sum_one w.heap.size 1 (some x) n cap l (w.alloc (.cells #[.slice (some x) n cap] 34)) (cell_at0 _ _ _ _ _ rfl) (hr.below ((Below.refl _ _).alloc (Nat.le_refl _) _)) (ht.alloc _)
  have hsl : sum l < 4294967296 := more_lt _ _ (by decide) hr.2.2.1
  have HS := Lib.hid hs1
  have HR := Lib.hid hr
  have HX := Lib.hid (Src.of hr)
  clear hs1 hr ht
  generalize hS : sum l = S at *
  have HS0 := Lib.hid hS
  clear hS
  go_enter Tryd.func51, Tryd.ntmps51
  go_wp2_with (first | (go_at_call 50; refine HS.out.mono ?_; rintro e w' ⟨rfl, rfl⟩) | (at_builtin; refine wpList_append_own _ rfl (.tmp 12) (.tmp 13) 34 rfl w.heap.size 5 i0 (.int .u8 0) 1 1 Tryd.underlying34 hi hz0 hz1 hz2 rfl (by decide) (.slice (some ⟨w.heap.size + 1, 0, none⟩) 0 (n + 4)) 0 (vals []) rfl (owns_made _ _ _ _ ?c0 ?c7 ?c8) x n cap (vals l) rfl ?c1 ?c2 ?c3 ?c4 ?c5 ?c6 ?_))
  case c0 => unfold maxLen; omega
  case c7 => simp
  case c8 => simp
  case c1 => rw [vals_length, HR.out.1]; omega
  case c2 => exact HX.out _ (((Below.refl _ _).alloc (Nat.le_refl _) _).alloc (by simp) _)
  case c3 => exact vals_one l
  case c4 => unfold maxLen; omega
  case c5 => omega
  case c6 => simp; omega
  intro v1 w1 hown hgrow hnil
  have bel : Below w.heap.size w w1 := (((Below.refl _ _).alloc (Nat.le_refl _) _).alloc (by simp) _).grown hgrow (by simp; omega) (fun k hk => by cases hk; simp)
  have hv1 : v1 ≠ .slice none 0 0 := hnil
  have hown1 : w1.ownsRow w.heap.size 5 1 v1 n (vals l) := hown
  obtain ⟨g1, cap1, rfl, hM1⟩ := Mine.of hown1 hv1 HR.out.2.2.1
  have HO := Lib.hid hown1
  have HM := Lib.hid hM1
  have HL := Lib.hid bel
  clear hown hgrow hnil hv1 hown1 hM1 bel
  have hsz : w.heap.size ≤ w1.heap.size := HL.out.size
  go_wp2_with (at_builtin; refine wpList_append_own _ rfl (.tmp 15) (.tmp 27) 34 rfl w.heap.size 5 i0 (.int .u8 0) 1 1 Tryd.underlying34 hi hz0 hz1 hz2 rfl (by decide) (.slice (some ⟨g1, 0, none⟩) n cap1) n (vals l) rfl (ownsRow_alloc HO.out _) ⟨w1.heap.size, 0, none⟩ 4 4 (vals (four S)) rfl ?d1 ?d2 ?d3 ?d4 ?d5 ?d6 ?_)
  case d1 => rfl
  case d2 =>
    intro j u hj
    have hj4 : j < 4 := by
      rcases Nat.lt_or_ge j 4 with h | h
      · exact h
      · rw [List.getElem?_eq_none (by exact h)] at hj; cases hj
    rw [addr_add, Nat.zero_add]
    have e : j = 0 ∨ j = 1 ∨ j = 2 ∨ j = 3 := by omega
    rcases e with rfl | rfl | rfl | rfl <;> (rw [← hj]; exact cell_at0 _ _ _ _ _ rfl)
  case d3 => exact vals_one _
  case d4 => unfold maxLen; omega
  case d5 => omega
  case d6 => simp; omega
  intro v2 w2 hown hgrow hnil
  have bel : Below w.heap.size w w2 := (Below.alloc' HL.out _).grown hgrow (by simp; omega) (fun k hk => by cases hk; exact HM.out.1)
  obtain ⟨g2, cap2, rfl, hM2⟩ := Mine.of (l := l ++ four S) (by rw [vals_append]; exact hown) (by simpa using hnil) (by
    intro c hc
    rcases List.mem_append.1 hc with hc | hc
    · exact HR.out.2.2.1 c hc
    · exact four_lt S hsl c hc)
  have HM2 := Lib.hid hM2
  have HL2 := Lib.hid bel
  clear hown hgrow hnil hM2 bel
  go_wp2_with fail
  go_ret
  exact ⟨g2, cap2, rfl, HM2.out, HL2.out⟩

set_option maxRecDepth 100000 in
set_option maxHeartbeats 1000000 in
theorem close_none (w : World) (ht : Tab w) :
    Calls Tryd.prog 51 #[.slice none 0 0] w fun e w' => ∃ g cap2, e = .returned (.slice (some ⟨g, 0, none⟩) 4 cap2) ∧ Mine w' w.heap.size g 4 cap2 (four (sum [])) ∧ Below w.heap.size w w' := by
  obtain ⟨i0, hi, hz0, hz1, hz2⟩ := info_parts info5
  have hmk : ∀ u : World, (Instr.makeSlice 34 (.int .i64 0) (.int .i64 4)).run Tryd.prog u =
      .ok (.slice (some ⟨u.heap.size, 0, none⟩) 0 4) (u.alloc (.cells (madeCells #[.int .u8 0] 4) 5)) := fun u => by
    have h := run_make (P := Tryd.prog) u 34 5 i0 (.int .u8 0) Tryd.underlying34 hi hz0 .i64 .i64 0 4 (by omega) (by omega) (by rw [hz2]; omega) (by omega)
    simpa [hz1, Value.cells] using h
  have hs1 := sum_one w.heap.size 1 none 0 0 [] (w.alloc (.cells #[.slice none 0 0] 34)) (cell_at0 _ _ _ _ _ rfl) (ByteRow.nil _ _) (ht.alloc _)
  have hsl : sum [] < 4294967296 := by decide
  have HS := Lib.hid hs1
  clear hs1 ht
  generalize hS : sum [] = S at *
  have HS0 := Lib.hid hS
  clear hS
  go_enter Tryd.func51, Tryd.ntmps51
  go_wp2_with (first | (go_at_call 50; refine HS.out.mono ?_; rintro e w' ⟨rfl, rfl⟩) | (at_builtin; refine wpList_append_own_none rfl (.tmp 12) (.tmp 13) 34 rfl w.heap.size 5 i0 1 Tryd.underlying34 hi (.slice (some ⟨w.heap.size + 1, 0, none⟩) 0 4) 0 (vals []) rfl (owns_made _ _ _ _ ?c0 ?c7 ?c8) rfl ?_) | (at_builtin; refine wpList_append_own _ rfl (.tmp 15) (.tmp 27) 34 rfl w.heap.size 5 i0 (.int .u8 0) 1 1 Tryd.underlying34 hi hz0 hz1 hz2 rfl (by decide) (.slice (some ⟨w.heap.size + 1, 0, none⟩) 0 4) 0 (vals []) rfl (ownsRow_alloc (owns_made _ _ _ _ ?e0 ?e7 ?e8) _) ⟨w.heap.size + 1 + 1, 0, none⟩ 4 4 (vals (four S)) rfl ?d1 ?d2 ?d3 ?d4 ?d5 ?d6 ?_))
  case c0 => unfold maxLen; omega
  case c7 => simp
  case c8 => simp
  case e0 => unfold maxLen; omega
  case e7 => simp
  case e8 => simp
  case d1 => rfl
  case d2 =>
    intro j u hj
    have hj4 : j < 4 := by
      rcases Nat.lt_or_ge j 4 with h | h
      · exact h
      · rw [List.getElem?_eq_none (by exact h)] at hj; cases hj
    rw [addr_add, Nat.zero_add]
    have e : j = 0 ∨ j = 1 ∨ j = 2 ∨ j = 3 := by omega
    rcases e with rfl | rfl | rfl | rfl <;> (rw [← hj]; exact cell_at2 _ _ _ _ _ _ _ rfl)
  case d3 => exact vals_one _
  case d4 => unfold maxLen; omega
  case d5 => omega
  case d6 => simp; omega
  intro v2 w2 hown hgrow hnil
  have bel : Below w.heap.size w w2 := (Below.alloc' (Below.alloc' (Below.alloc' (Below.refl _ _) _) _) _).grown hgrow (by simp; omega) (fun k hk => by cases hk; exact Nat.le_succ _)
  obtain ⟨g2, cap2, rfl, hM2⟩ := Mine.of (l := four S) hown (by simpa using hnil) (four_lt S hsl)
  have HM2 := Lib.hid hM2
  have HL2 := Lib.hid bel
  clear hown hgrow hnil hM2 bel
  go_wp2_with fail
  go_ret
  exact ⟨g2, cap2, rfl, HM2.out, HL2.out⟩

end Go.Proofs.YtcmnfbpmkndfkaaDoor.Cr
