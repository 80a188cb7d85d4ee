/-
  The register of 32 bits, and sums of bytes (no program in sight).
-/
import Derived.Laws.BitsAllLaws
namespace Go.Proofs.YtkplkfhkablelaaDoor

/-- the register goes one to the right; if its lowest bit was 1 it is put together with the polynomial -/
def S (r : Nat) : Nat := if r % 2 = 1 then (r / 2) ^^^ 2197175160 else r / 2
def SN : Nat → Nat → Nat
  | 0, r => r
  | n + 1, r => SN n (S r)

theorem xor_mod2 (a b : Nat) : (a ^^^ b) % 2 = (a % 2 + b % 2) % 2 := by
  have h := Nat.testBit_xor a b 0
  rw [Nat.testBit_zero, Nat.testBit_zero, Nat.testBit_zero] at h
  generalize a ^^^ b = c at *
  rcases Nat.mod_two_eq_zero_or_one a with ha | ha <;> rcases Nat.mod_two_eq_zero_or_one b with hb | hb <;> rcases Nat.mod_two_eq_zero_or_one c with hc | hc <;> rw [ha, hb, hc] at h <;> first | (exact absurd h (by decide)) | (rw [ha, hb, hc])
theorem xor_div2 (a b : Nat) : (a ^^^ b) / 2 = (a / 2) ^^^ (b / 2) := Nat.xor_div_two

theorem S_xor (a b : Nat) : S (a ^^^ b) = S a ^^^ S b := by
  unfold S
  rw [xor_mod2, xor_div2]
  rcases Nat.mod_two_eq_zero_or_one a with ha | ha <;> rcases Nat.mod_two_eq_zero_or_one b with hb | hb <;> rw [ha, hb]
  · simp
  · simp only [Nat.zero_add, Nat.one_mod, if_true]; rw [if_neg (by decide), Nat.xor_assoc]
  · simp only [Nat.add_zero, Nat.one_mod, if_true]; rw [if_neg (by decide)]; ac_rfl
  · simp only [if_true]
    rw [if_neg (by decide)]
    have : a / 2 ^^^ 2197175160 ^^^ (b / 2 ^^^ 2197175160) = a / 2 ^^^ b / 2 ^^^ (2197175160 ^^^ 2197175160) := by
      ac_rfl
    rw [this, Nat.xor_self, Nat.xor_zero]
theorem SN_xor (n a b : Nat) : SN n (a ^^^ b) = SN n a ^^^ SN n b := by
  induction n generalizing a b with
  | zero => rfl
  | succ n ih => simp only [SN]; rw [S_xor, ih]
theorem S_zero : S 0 = 0 := rfl
theorem SN_zero (n : Nat) : SN n 0 = 0 := by induction n with | zero => rfl | succ n ih => simp only [SN]; rw [S_zero, ih]
theorem SN_add (m n r : Nat) : SN (m + n) r = SN n (SN m r) := by
  induction m generalizing r with
  | zero => rw [Nat.zero_add]; rfl
  | succ m ih => rw [show m + 1 + n = (m + n) + 1 by omega]; simp only [SN]; exact ih (S r)
theorem S_even (k : Nat) : S (2 * k) = k := by unfold S; rw [if_neg (by omega)]; omega

theorem S_lt (r : Nat) (h : r < 4294967296) : S r < 4294967296 := by
  unfold S
  split
  · exact Nat.xor_lt_two_pow (n := 32) (by omega) (by decide)
  · omega
theorem SN_lt (n r : Nat) (h : r < 4294967296) : SN n r < 4294967296 := by
  induction n generalizing r with
  | zero => exact h
  | succ n ih => exact ih _ (S_lt r h)

/-- the register's step loses nothing -/
theorem S_eq_zero (r : Nat) (h : r < 4294967296) (e : S r = 0) : r = 0 := by
  unfold S at e
  split at e
  · rename_i h1
    have h2 : r / 2 = 2197175160 := by
      have h3 := congrArg (· ^^^ 2197175160) e
      simp only [Nat.xor_assoc, Nat.xor_self, Nat.xor_zero, Nat.zero_xor] at h3
      exact h3
    omega
  · omega
theorem SN_eq_zero (n r : Nat) (h : r < 4294967296) (e : SN n r = 0) : r = 0 := by
  induction n generalizing r with
  | zero => exact e
  | succ n ih => exact S_eq_zero r h (ih _ (S_lt r h) e)

/-! four steps at once -/
def quarterL : List Nat := [0, 274646895, 549293790, 820201905, 1098587580, 1361435347, 1640403810, 1905808397, 2197175160, 2460548119, 2722870694, 2987750089, 3280807620, 3553878443, 3811616794, 4084100981]
theorem quarter_eq : ∀ i : Fin 16, SN 4 i.val = quarterL.getD i.val 0 := by decide
theorem SN4_mul (k : Nat) : SN 4 (16 * k) = k := by
  simp only [SN]
  rw [show 16 * k = 2 * (2 * (2 * (2 * k))) by omega, S_even, S_even, S_even, S_even]
theorem split16 (r : Nat) : r = (16 * (r / 16)) ^^^ (r % 16) := by
  have h := nat_join 4 (16 * (r / 16)) (r % 16) (by omega) (by omega)
  apply Nat.eq_of_testBit_eq
  intro i
  rw [Nat.testBit_xor]
  have h2 : r = 16 * (r / 16) ||| r % 16 := by rw [h]; omega
  have h3 : (16 * (r / 16)).testBit i = (decide (4 ≤ i) && r.testBit i) := by
    rw [show 16 * (r / 16) = 2 ^ 4 * (r / 2 ^ 4) from rfl, Nat.testBit_two_pow_mul, Nat.testBit_div_two_pow]
    by_cases g : 4 ≤ i
    · simp [g, show i - 4 + 4 = i by omega]
    · simp [g]
  have h4 : (r % 16).testBit i = (decide (i < 4) && r.testBit i) := by
    rw [show r % 16 = r % 2 ^ 4 from rfl, Nat.testBit_mod_two_pow]
  rw [h3, h4]
  by_cases g : 4 ≤ i
  · simp [g, show ¬ i < 4 by omega]
  · simp [g, show i < 4 by omega]
theorem four_steps (r : Nat) : (r / 16) ^^^ quarterL.getD (r % 16) 0 = SN 4 r := by
  have h := congrArg (SN 4) (split16 r)
  rw [SN_xor, SN4_mul] at h
  rw [h, ← quarter_eq ⟨r % 16, by omega⟩]

/-- a byte -/
def byteS (r c : Nat) : Nat := SN 8 (r ^^^ c)
theorem byte_steps (r : Nat) : ((((r / 16) ^^^ quarterL.getD (r % 16) 0) / 16) ^^^ quarterL.getD (((r / 16) ^^^ quarterL.getD (r % 16) 0) % 16) 0) = SN 8 r := by
  rw [four_steps (r / 16 ^^^ quarterL.getD (r % 16) 0), four_steps r]
  exact (SN_add 4 4 r).symm
theorem byteS_lt (r c : Nat) (h : r < 4294967296) (hc : c < 256) : byteS r c < 4294967296 := SN_lt 8 _ (Nat.xor_lt_two_pow (n := 32) h (by omega))

/-- the register behind bytes -/
def reg (r : Nat) (l : List Nat) : Nat := l.foldl byteS r
theorem reg_append (r : Nat) (l m : List Nat) : reg r (l ++ m) = reg (reg r l) m := List.foldl_append
theorem reg_lt (r : Nat) (l : List Nat) (h : r < 4294967296) (hl : ∀ c ∈ l, c < 256) : reg r l < 4294967296 := by
  induction l generalizing r with
  | nil => exact h
  | cons c l ih => exact ih _ (byteS_lt r c h (hl c (by simp))) (fun d hd => hl d (by simp [hd]))
theorem reg_snoc (r : Nat) (l : List Nat) (c : Nat) : reg r (l ++ [c]) = byteS (reg r l) c := by rw [reg_append]; rfl

def flip32 (r : Nat) : Nat := r ^^^ 4294967295
theorem flip32_flip32 (r : Nat) : flip32 (flip32 r) = r := by unfold flip32; rw [Nat.xor_assoc, Nat.xor_self, Nat.xor_zero]
theorem flip32_lt (r : Nat) (h : r < 4294967296) : flip32 r < 4294967296 := Nat.xor_lt_two_pow (n := 32) h (by decide)

/-- THE SUM -/
def more (s : Nat) (l : List Nat) : Nat := flip32 (reg (flip32 s) l)
theorem more_append (s : Nat) (l m : List Nat) : more s (l ++ m) = more (more s l) m := by
  unfold more; rw [reg_append, flip32_flip32]
theorem more_nil (s : Nat) : more s [] = s := flip32_flip32 s
def sum (l : List Nat) : Nat := more 0 l
theorem more_lt (s : Nat) (l : List Nat) (h : s < 4294967296) (hl : ∀ c ∈ l, c < 256) : more s l < 4294967296 := flip32_lt _ (reg_lt _ _ (flip32_lt _ h) hl)

/-! bit by bit -/
/-- the document's step, with a bit that comes in -/
def bitS (r b : Nat) : Nat := if (r % 2) ^^^ b = 1 then (r / 2) ^^^ 2197175160 else r / 2
theorem bitS_eq (r b : Nat) (hb : b < 2) : bitS r b = S (r ^^^ b) := by
  unfold bitS S
  have h1 : (r ^^^ b) % 2 = (r % 2 + b % 2) % 2 := xor_mod2 r b
  have h2 : (r ^^^ b) / 2 = r / 2 := by rw [xor_div2, show b / 2 = 0 by omega, Nat.xor_zero]
  rw [h1, h2]
  rcases Nat.mod_two_eq_zero_or_one r with hr | hr <;> rw [hr]
  · have : b = 0 ∨ b = 1 := by omega
    rcases this with rfl | rfl <;> rfl
  · have : b = 0 ∨ b = 1 := by omega
    rcases this with rfl | rfl <;> rfl

/-- so many bits of a number, the lowest first -/
def bitsS (c : Nat) : Nat → Nat → Nat
  | 0, r => r
  | k + 1, r => bitS (bitsS c k r) (c / 2 ^ k % 2)

theorem low_split (c k : Nat) : c % 2 ^ (k + 1) = (2 ^ k * (c / 2 ^ k % 2)) ^^^ (c % 2 ^ k) := by
  apply Nat.eq_of_testBit_eq
  intro i
  rw [Nat.testBit_xor, Nat.testBit_mod_two_pow, Nat.testBit_mod_two_pow, Nat.testBit_two_pow_mul]
  have h : (c / 2 ^ k % 2).testBit (i - k) = (decide (i - k < 1) && c.testBit (i - k + k)) := by
    rw [show c / 2 ^ k % 2 = c / 2 ^ k % 2 ^ 1 from rfl, Nat.testBit_mod_two_pow, Nat.testBit_div_two_pow]
  rw [h]
  by_cases g1 : i < k
  · simp [g1, show ¬ k ≤ i by omega, show i < k + 1 by omega]
  · by_cases g2 : i = k
    · subst g2; simp
    · simp [g1, show ¬ i < k + 1 by omega, show ¬ (i - k < 1) by omega]

theorem SN_shift (k b : Nat) : SN k (2 ^ k * b) = b := by
  induction k with
  | zero => simp [SN]
  | succ k ih => simp only [SN]; rw [Nat.pow_succ, show 2 ^ k * 2 * b = 2 * (2 ^ k * b) by rw [Nat.mul_comm (2 ^ k) 2, Nat.mul_assoc], S_even, ih]

theorem SN_succ (k r : Nat) : SN (k + 1) r = S (SN k r) := by rw [SN_add k 1]; rfl

/-- bits that come in one by one are as one number that comes in at once -/
theorem bitsS_eq (c k r : Nat) : bitsS c k r = SN k (r ^^^ (c % 2 ^ k)) := by
  induction k with
  | zero => simp [bitsS, SN, Nat.mod_one]
  | succ k ih =>
    simp only [bitsS]
    rw [bitS_eq _ _ (Nat.mod_lt _ (by decide)), ih, SN_succ, low_split c k]
    congr 1
    rw [show r ^^^ (2 ^ k * (c / 2 ^ k % 2) ^^^ c % 2 ^ k) = (r ^^^ c % 2 ^ k) ^^^ (2 ^ k * (c / 2 ^ k % 2)) by ac_rfl, SN_xor k (r ^^^ c % 2 ^ k), SN_shift]
theorem bitsS_byte (c r : Nat) (h : c < 256) : bitsS c 8 r = byteS r c := by
  rw [bitsS_eq, Nat.mod_eq_of_lt (by simpa using h)]; rfl

end Go.Proofs.YtkplkfhkablelaaDoor
