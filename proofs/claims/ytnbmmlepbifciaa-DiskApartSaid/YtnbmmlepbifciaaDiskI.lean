/-
  The law DiskSteps.
-/
import Derived.Test.YtnbmmlepbifciaaDiskH
import Derived.Deep.Slices
namespace Go.Proofs.Ytnbmmlepbifciaa
open Go.ChangeShapes Go.WideShapes Go.ChangeAt Go.RowKit Go.Deep
set_option linter.unusedVariables false

/-- k sectors, all of 512 bytes -/
def Good (s : DSt) (k : Nat) : Prop := s.L.length = k ∧ s.N.length = k ∧ (∀ b ∈ s.L, b.size = 512) ∧ (∀ b ∈ s.N, b.size = 512) ∧ (∀ x ∈ s.W, x.1 < k ∧ x.2.size = 512)
theorem good_chg {s : DSt} {k : Nat} (h : Good s k) : Good (chg s) k := by
  unfold Good at *
  rw [chg_L, chg_N, chg_W]
  exact h
theorem good_wr {s : DSt} {k : Nat} (h : Good s k) (j : Nat) (hj : j < k) (x : ByteArray) (hx : x.size = 512) : Good (wr s j x) k := by
  obtain ⟨h1, h2, h3, h4, h5⟩ := h
  refine ⟨by unfold wr; dsimp only; rw [chg_L]; exact h1, by unfold wr; dsimp only; rw [List.length_set]; exact h2, fun b hb => ?_, fun b hb => ?_, fun y hy => ?_⟩
  · unfold wr at hb
    dsimp only at hb
    rw [chg_L] at hb
    exact h3 b hb
  · unfold wr at hb
    rcases List.mem_or_eq_of_mem_set hb with hb | hb
    · exact h4 b hb
    · rw [hb]; exact hx
  · unfold wr at hy
    rcases List.mem_append.1 hy with hy | hy
    · exact h5 y hy
    · simp only [List.mem_singleton] at hy
      subst hy
      exact ⟨hj, hx⟩
theorem lastsK_good (pk : Nat → Bool) (L : List ByteArray) (W : List (Nat × ByteArray)) (hL : ∀ b ∈ L, b.size = 512) (hW : ∀ x ∈ W, x.2.size = 512) (k : Nat) : ∀ b ∈ lastsK pk L W k, b.size = 512 := by
  induction k with
  | zero => exact hL
  | succ k ih =>
    unfold lastsK
    split
    · rename_i x hx
      split
      · intro b hb
        rcases List.mem_or_eq_of_mem_set hb with hb | hb
        · exact ih b hb
        · rw [hb]; exact hW _ (List.mem_of_getElem? hx)
      · exact ih
    · exact ih
theorem nowK_good (L N : List ByteArray) (W : List (Nat × ByteArray)) (hL : ∀ b ∈ L, b.size = 512) (hN : ∀ b ∈ N, b.size = 512) (hW : ∀ x ∈ W, x.1 < L.length) (k : Nat) : ∀ b ∈ nowK L N W k, b.size = 512 := by
  induction k with
  | zero => exact hN
  | succ k ih =>
    unfold nowK
    split
    · rename_i x hx
      intro b hb
      rcases List.mem_or_eq_of_mem_set hb with hb | hb
      · exact ih b hb
      · rw [hb]
        have hl := hW _ (List.mem_of_getElem? hx)
        rw [List.getD_eq_getElem?_getD, List.getElem?_eq_getElem hl]
        exact hL _ (List.getElem_mem hl)
    · exact ih
theorem good_settle {s : DSt} {k : Nat} (h : Good s k) (pk : Nat → Bool) : Good (settleS pk s) k := by
  obtain ⟨h1, h2, h3, h4, h5⟩ := h
  refine ⟨by unfold settleS; dsimp only; rw [lastsK_len]; exact h1, by unfold settleS; dsimp only; rw [nowK_len]; exact h2, lastsK_good pk _ _ h3 (fun x hx => (h5 x hx).2) _, nowK_good _ _ _ (lastsK_good pk _ _ h3 (fun x hx => (h5 x hx).2) _) h4 (fun x hx => by rw [lastsK_len, h1]; exact (h5 x hx).1) _, fun x hx => by cases hx⟩
theorem good_new (n : Nat) : Good ⟨List.replicate n blank, List.replicate n blank, [], false, 0, false, 0⟩ n :=
  ⟨List.length_replicate, List.length_replicate, fun b hb => by rw [List.eq_of_mem_replicate hb]; exact blank_size, fun b hb => by rw [List.eq_of_mem_replicate hb]; exact blank_size, fun x hx => by cases hx⟩
theorem good_at {s : DSt} {k : Nat} (h : Good s k) (i : Nat) (hi : i < k) : (s.N.getD i ⟨#[]⟩).size = 512 := by
  have hl : i < s.N.length := by rw [h.2.1]; exact hi
  rw [List.getD_eq_getElem?_getD, List.getElem?_eq_getElem hl]
  exact h.2.2.2.1 _ (List.getElem_mem hl)

/-- a row of bools that came in -/
def BoolRow (w : World) (a : Option Addr) (n : Nat) (zs : Nat → Bool) : Prop := n ≤ maxLen ∧ (0 < n → ∃ b o, a = some ⟨b, o, none⟩ ∧ ∀ i, i < n → w.cell? ⟨b, o + i, none⟩ = some (.bool (zs i)))
theorem BoolRow.at_ {w : World} {a : Option Addr} {n : Nat} {zs : Nat → Bool} (h : BoolRow w a n zs) {k : Nat} (hk : k < n) :
    ∃ p : Addr, p.block < w.heap.size ∧ w.cell? p = some (.bool (zs k)) ∧ ∀ (cap : Nat) (W : World), (Instr.indexAt 37 (.slice a n cap) (.int .i64 (k : Int))).run Try.prog W = .ok (.pointer (some p)) W := by
  obtain ⟨_, h4⟩ := h
  obtain ⟨b, o, rfl, hc⟩ := h4 (by omega)
  refine ⟨⟨b, o + k, none⟩, cell_lt (hc k hk), hc k hk, fun cap W => ?_⟩
  have h1 : (0 : Int) ≤ (k : Int) := by omega
  have h2 : (k : Int) < (n : Int) := by omega
  clear hc h4
  go_simp
theorem bools_of {H : Type} {enc : TypeId × Value → H} {w : World} {a : Option Addr} {len cap : Nat} {d : DataW H} {p : List MemPlace} (h : DataW.Trod enc Try.prog w 0 (fun _ => true) true 37 (.slice a len cap) d p) : ∃ zs, BoolRow w a len zs := by
  obtain ⟨fuel, hf⟩ := h
  rcases open_slice Try.underlying37 hf with ⟨hcs, _⟩ | ⟨x, l, c, m, n, D, Pl, hcs, _, hl, hm, hmm, _, hi⟩
  · simp [Value.cells] at hcs
    obtain ⟨rfl, rfl, rfl⟩ := hcs
    exact ⟨fun _ => false, Nat.zero_le _, fun h => by omega⟩
  · simp [Value.cells] at hcs
    obtain ⟨rfl, rfl, rfl⟩ := hcs
    simp only [if_true] at hmm
    subst hmm
    have hC : Try.prog.cellsOf 4 = 1 := by kernel_rfl
    rw [hC] at hi
    have hall : ∀ i, i < len → ∃ t : Bool, w.cell? (x.add i) = some (.bool t) := by
      intro i hil
      obtain ⟨cs', hc, ht⟩ := hi i (by omega)
      obtain ⟨_, hcl, hat⟩ := World.cells?_some hc
      have h0 := hat 0 (by decide)
      obtain ⟨t, e1, _⟩ := DataW.trod_bool Try.underlying4 ht
      rw [e1] at h0
      refine ⟨t, ?_⟩
      have e2 : (x.add (i * 1)).add 0 = x.add i := by simp [Addr.add]
      rw [e2] at h0
      exact h0
    obtain ⟨ts, hts⟩ : ∃ ts : Nat → Bool, ∀ i, i < len → w.cell? (x.add i) = some (.bool (ts i)) :=
      ⟨fun i => if h : i < len then Classical.choose (hall i h) else false, fun i h => by
        simp only [dif_pos h]
        exact Classical.choose_spec (hall i h)⟩
    refine ⟨ts, by omega, fun h0 => ?_⟩
    obtain ⟨b, off, spot⟩ := x
    have hc0 := hts 0 h0
    have hspot : spot = none := by simpa [Addr.add] using World.cell?_spot hc0
    subst hspot
    refine ⟨b, off, rfl, fun i hil => ?_⟩
    have h := hts i hil
    rw [add_plain] at h
    exact h
end Go.Proofs.Ytnbmmlepbifciaa
