/-
  The law DiskKeeps: the rows that come in, the array, and how the disk stands.
-/
import Derived.Test.YtnbmmlepbifciaaDiskK
namespace Go.Proofs.Ytnbmmlepbifciaa
open Go.ChangeShapes Go.WideShapes Go.ChangeAt Go.RowKit Go.Deep
set_option linter.unusedVariables false

/-- a slice of integers that came in: nil, or a row of 'cap' cells -/
def IsRow (k : IntKind) (w : World) (a : Option Addr) (len cap : Nat) (zs : List Int) : Prop :=
  (a = none ∧ len = 0 ∧ cap = 0 ∧ zs = []) ∨
  ∃ x, a = some x ∧ len ≤ cap ∧ cap ≤ maxLen ∧ zs.length = cap ∧ (∀ i, i < zs.length → w.cell? (x.add i) = some (.int k (zs.getD i 0))) ∧ ∀ n ∈ zs, (Lit.int k n).wf = true
theorem row_bytes {w : World} {a : Option Addr} {len cap : Nat} {zs : List Int} (h : IsRow .u8 w a len cap zs) : ∃ l, ByteRow w a len l ∧ len ≤ cap ∧ cap ≤ maxLen := by
  rcases h with ⟨rfl, rfl, rfl, rfl⟩ | ⟨x, rfl, h1, h2, h3, h4, h5⟩
  · exact ⟨[], ⟨rfl, Nat.zero_le _, (by intro z hz; cases hz), (by intro h; omega)⟩, Nat.le_refl _, Nat.zero_le _⟩
  · have hb : ∀ n ∈ zs, 0 ≤ n ∧ n ≤ 255 := fun n hn => by
      have := h5 n hn
      simpa [Lit.wf, IntKind.min, IntKind.max, IntKind.signed, IntKind.bits] using this
    refine ⟨(zs.take len).map Int.toNat, ⟨by rw [List.length_map, List.length_take]; omega, by omega, ?_, ?_⟩, h1, h2⟩
    · intro c hc
      obtain ⟨n, hn, rfl⟩ := List.mem_map.1 hc
      have := hb n (List.mem_of_mem_take hn)
      omega
    · intro h0
      obtain ⟨b, off, spot⟩ := x
      have hc0 := h4 0 (by omega)
      have hspot : spot = none := by simpa [Addr.add] using World.cell?_spot hc0
      subst hspot
      refine ⟨b, off, rfl, fun i hi => ?_⟩
      have hci := h4 i (by omega)
      have e1 : (⟨b, off, none⟩ : Addr).add i = ⟨b, off + i, none⟩ := by simp [Addr.add]
      rw [e1] at hci
      rw [hci]
      have hlt : i < zs.length := by omega
      have hm := hb zs[i] (List.getElem_mem hlt)
      have e2 : zs.getD i 0 = zs[i] := by simp [List.getD, List.getElem?_eq_getElem hlt]
      have e3 : ((zs.take len).map Int.toNat).getD i 0 = zs[i].toNat := by
        simp [List.getD, List.getElem?_map, hi, List.getElem?_eq_getElem hlt]
      rw [e2, e3]
      congr 2
      omega
theorem intRow_of {w : World} {a : Option Addr} {len cap : Nat} {zs : List Int} (h : IsRow .i64 w a len cap zs) : IntRow w a len (zs.take len) := by
  rcases h with ⟨rfl, rfl, rfl, rfl⟩ | ⟨x, rfl, h1, h2, h3, h4, h5⟩
  · exact ⟨rfl, Nat.zero_le _, (by intro z hz; cases hz), (by intro h; omega)⟩
  · refine ⟨by rw [List.length_take]; omega, by omega, fun z hz => ?_, fun h0 => ?_⟩
    · have := h5 z (List.mem_of_mem_take hz)
      simpa [Lit.wf, IntKind.min, IntKind.max, IntKind.signed, IntKind.bits] using this
    · obtain ⟨b, off, spot⟩ := x
      have hc0 := h4 0 (by omega)
      have hspot : spot = none := by simpa [Addr.add] using World.cell?_spot hc0
      subst hspot
      refine ⟨b, off, rfl, fun i hi => ?_⟩
      have hci := h4 i (by omega)
      have e1 : (⟨b, off, none⟩ : Addr).add i = ⟨b, off + i, none⟩ := by simp [Addr.add]
      rw [e1] at hci
      rw [hci]
      simp [List.getD, hi]
theorem intRow_block {w : World} {a : Option Addr} {n : Nat} {l : List Int} (h : IntRow w a n l) (h0 : 0 < n) : ∀ x, a = some x → x.block < w.heap.size := by
  obtain ⟨b, o, rfl, hc⟩ := h.2.2.2 h0
  intro x hx
  cases hx
  exact cell_lt (hc 0 h0)
theorem IntRow.nil' {w : World} (a : Option Addr) {l : List Int} (h : IntRow w a 0 l) (W : World) : IntRow W a 0 l := ⟨h.1, h.2.1, h.2.2.1, fun h => by omega⟩
/-- a byte that came in -/
def ByteAt (w : World) (a : Option Addr) (n k : Nat) (x : Nat) : Prop :=
  x < 256 ∧ ∃ p : Addr, p.block < w.heap.size ∧ w.cell? p = some (.int .u8 (x : Int)) ∧ ∀ (cap : Nat) (W : World), (Instr.indexAt 22 (.slice a n cap) (.int .i64 (k : Int))).run Try.prog W = .ok (.pointer (some p)) W
theorem ByteRow.at_ {w : World} {a : Option Addr} {n : Nat} {l : List Nat} (h : ByteRow w a n l) {k : Nat} (hk : k < n) : ByteAt w a n k (l.getD k 0) := by
  obtain ⟨h1, _, h3, h4⟩ := h
  obtain ⟨b, o, rfl, hc⟩ := h4 (by omega)
  refine ⟨h3 _ ?_, ⟨b, o + k, none⟩, cell_lt (hc k hk), hc k hk, fun cap W => ?_⟩
  · rw [List.getD_eq_getElem?_getD, List.getElem?_eq_getElem (by omega)]
    exact List.getElem_mem (by omega)
  have h1 : (0 : Int) ≤ (k : Int) := by omega
  have h2 : (k : Int) < (n : Int) := by omega
  clear hc h4 h3
  go_simp
/-- the array of eight bytes -/
def Was (w : World) (b : Nat) (f : Nat → Nat) : Prop := ∀ j, j < 8 → w.cell? ⟨b, j, none⟩ = some (.int .u8 (f j : Int)) ∧ w.frozen? ⟨b, j, none⟩ = false
def upd (f : Nat → Nat) (j x : Nat) : Nat → Nat := fun k => if k = j then x else f k
theorem Was.keep {w w' : World} {b : Nat} {f : Nat → Nat} (h : Was w b f) (hb : w'.heap[b]? = w.heap[b]?) : Was w' b f := fun j hj =>
  ⟨(World.cell?_of_block (a := ⟨b, j, none⟩) hb).trans (h j hj).1, (World.frozen?_of_block (a := ⟨b, j, none⟩) hb).trans (h j hj).2⟩
theorem Was.lt {w : World} {b : Nat} {f : Nat → Nat} (h : Was w b f) : b < w.heap.size := cell_lt (h 0 (by decide)).1
theorem Was.below {w w' : World} {b : Nat} {f : Nat → Nat} (h : Was w b f) (hb : Below w.heap.size w w') : Was w' b f := h.keep (hb.block b h.lt)
theorem Was.only {w w' : World} {F : Nat → Prop} {b : Nat} {f : Nat → Nat} (h : Was w b f) (ho : Only F w w') (hF : ¬ F b) : Was w' b f := h.keep (ho.block b h.lt hF)
theorem Was.set {w : World} {b : Nat} {f : Nat → Nat} (h : Was w b f) (i x : Nat) : Was (w.setCell ⟨b, i, none⟩ (.int .u8 (x : Int))) b (upd f i x) := fun j hj => by
  refine ⟨?_, by rw [World.frozen?_setCell]; exact (h j hj).2⟩
  unfold upd
  by_cases g : j = i
  · subst g
    rw [if_pos rfl]
    exact by apply World.cell?_setCell_same; exact (h j hj).1
  · rw [if_neg g]
    refine Eq.trans (by apply World.cell?_setCell_other; intro e; cases e; exact g rfl) (h j hj).1
theorem was_new (w : World) : Was (w.alloc (.cells #[.int .u8 0, .int .u8 0, .int .u8 0, .int .u8 0, .int .u8 0, .int .u8 0, .int .u8 0, .int .u8 0] 29)) w.heap.size (fun _ => 0) := fun j hj => by
  have hj' : j = 0 ∨ j = 1 ∨ j = 2 ∨ j = 3 ∨ j = 4 ∨ j = 5 ∨ j = 6 ∨ j = 7 := by omega
  rcases hj' with rfl | rfl | rfl | rfl | rfl | rfl | rfl | rfl <;> exact ⟨by simp, by simp⟩

/-- unarmed, on, behind m changes -/
structure Ph (s : DSt) (m : Nat) : Prop where
  good : Good s 8
  armed : s.armed = false
  left : s.left = 0
  off : s.off = false
  steps : s.steps = (m : Int)
  waits : s.W.length ≤ m
theorem Ph.chg {s : DSt} {m : Nat} (h : Ph s m) : Go.Proofs.Ytnbmmlepbifciaa.chg s = { s with steps := s.steps + 1 } ∧ chgE s = 0 := by
  have hne : ¬ (s.armed = true ∧ s.left = 0) := fun hh => by rw [h.armed] at hh; cases hh.1
  refine ⟨?_, if_neg hne⟩
  unfold Go.Proofs.Ytnbmmlepbifciaa.chg
  rw [if_neg hne, if_neg (by rw [h.armed]; decide)]
theorem Ph.wr {s : DSt} {m : Nat} (h : Ph s m) (j : Nat) (hj : j < 8) (x : ByteArray) (hx : x.size = 512) : Ph (Go.Proofs.Ytnbmmlepbifciaa.wr s j x) (m + 1) := by
  have e := h.chg.1
  refine ⟨good_wr h.good j hj x hx, ?_, ?_, ?_, ?_, ?_⟩
  · unfold Go.Proofs.Ytnbmmlepbifciaa.wr; rw [e]; exact h.armed
  · unfold Go.Proofs.Ytnbmmlepbifciaa.wr; rw [e]; exact h.left
  · unfold Go.Proofs.Ytnbmmlepbifciaa.wr; rw [e]; exact h.off
  · unfold Go.Proofs.Ytnbmmlepbifciaa.wr; rw [e]; dsimp only; rw [h.steps]; omega
  · unfold Go.Proofs.Ytnbmmlepbifciaa.wr; dsimp only; rw [List.length_append]; have := h.waits; simp; omega
theorem Ph.barrier {s : DSt} {m : Nat} (h : Ph s m) : Ph (settleS (fun _ => true) (Go.Proofs.Ytnbmmlepbifciaa.chg s)) (m + 1) := by
  have e := h.chg.1
  refine ⟨good_settle (good_chg h.good) _, ?_, ?_, ?_, ?_, Nat.zero_le _⟩
  · rw [e]; exact h.armed
  · rw [e]; exact h.left
  · rw [e]; exact h.off
  · rw [e]; show s.steps + 1 = _; rw [h.steps]; omega
theorem Ph.bounds {s : DSt} {m : Nat} (h : Ph s m) (hm : m ≤ 100) : (0 ≤ s.steps ∧ s.steps < 4611686018427387904) ∧ (0 ≤ s.left ∧ s.left < 4611686018427387904) ∧ s.W.length < 1000000 := by
  have h1 := h.steps
  have h2 := h.left
  have h3 := h.waits
  exact ⟨by omega, by omega, by omega⟩
theorem ph_new : Ph ⟨List.replicate 8 blank, List.replicate 8 blank, [], false, 0, false, 0⟩ 0 := ⟨good_new 8, rfl, rfl, rfl, rfl, Nat.le_refl _⟩

/-- ahead of the barrier: what is read is the array's -/
structure One (s : DSt) (f : Nat → Nat) : Prop where
  app : App s
  now : ∀ j, j < 8 → s.N.getD j ⟨#[]⟩ = bstr (fullL (f j)) ∧ f j < 256
theorem one_new : One ⟨List.replicate 8 blank, List.replicate 8 blank, [], false, 0, false, 0⟩ (fun _ => 0) := by
  refine ⟨app_new 8, fun j hj => ⟨?_, by decide⟩⟩
  rw [List.getD_eq_getElem?_getD, List.getElem?_eq_getElem (by rw [List.length_replicate]; exact hj), List.getElem_replicate]
  rfl
theorem One.wr {s : DSt} {f : Nat → Nat} (h : One s f) (hl : s.N.length = 8) (i : Nat) (hi : i < 8) (x : Nat) (hx : x < 256) : One (Go.Proofs.Ytnbmmlepbifciaa.wr s i (bstr (fullL x))) (upd f i x) := by
  refine ⟨app_wr h.app i _, fun j hj => ?_⟩
  unfold Go.Proofs.Ytnbmmlepbifciaa.wr upd
  dsimp only
  by_cases g : j = i
  · subst g
    rw [if_pos rfl, getD_set_eq _ _ _ _ (by omega)]
    exact ⟨rfl, hx⟩
  · rw [if_neg g, getD_set_ne _ _ _ _ _ (fun e => g e.symm)]
    exact h.now j hj
/-- behind it: what lasts is the array's, and k writes wait -/
structure Two (s : DSt) (f : Nat → Nat) (l : List Nat) (k : Nat) : Prop where
  app : App s
  last : ∀ j, j < 8 → s.L.getD j ⟨#[]⟩ = bstr (fullL (f j)) ∧ f j < 256
  len : s.W.length = k
  wait : ∀ j, j < k → s.W[j]? = some ((j * 3) % 8, bstr (fullL (l.getD j 0))) ∧ l.getD j 0 < 256
theorem One.barrier {s : DSt} {f : Nat → Nat} {m : Nat} (h : One s f) (hp : Ph s m) (l : List Nat) : Two (settleS (fun _ => true) (Go.Proofs.Ytnbmmlepbifciaa.chg s)) f l 0 := by
  rw [app_barrier h.app]
  exact ⟨rfl, fun j hj => h.now j hj, rfl, fun j hj => by omega⟩
theorem Two.wr {s : DSt} {f : Nat → Nat} {l : List Nat} {k : Nat} (h : Two s f l k) (hx : l.getD k 0 < 256) : Two (Go.Proofs.Ytnbmmlepbifciaa.wr s ((k * 3) % 8) (bstr (fullL (l.getD k 0)))) f l (k + 1) := by
  refine ⟨app_wr h.app _ _, fun j hj => ?_, ?_, fun j hj => ?_⟩
  · unfold Go.Proofs.Ytnbmmlepbifciaa.wr; dsimp only; rw [chg_L]; exact h.last j hj
  · unfold Go.Proofs.Ytnbmmlepbifciaa.wr; dsimp only; rw [List.length_append, h.len]; rfl
  · unfold Go.Proofs.Ytnbmmlepbifciaa.wr
    dsimp only
    by_cases g : j = k
    · subst g
      refine ⟨?_, hx⟩
      rw [List.getElem?_append_right (by rw [h.len]; exact Nat.le_refl _), h.len, Nat.sub_self]
      rfl
    · rw [List.getElem?_append_left (by rw [h.len]; omega)]
      exact h.wait j (by omega)
/-- what may be read behind the crash -/
def May (f : Nat → Nat) (l : List Nat) (k n x : Nat) : Prop := x = f n ∨ ∃ j, j < k ∧ (j * 3) % 8 = n ∧ l.getD j 0 = x
structure Three (s : DSt) (f : Nat → Nat) (l : List Nat) (k : Nat) : Prop where
  off : s.off = false
  len : s.L.length = 8
  at_ : ∀ n, n < 8 → ∃ x, x < 256 ∧ s.N.getD n ⟨#[]⟩ = bstr (fullL x) ∧ May f l k n x
theorem Two.crash {s : DSt} {f : Nat → Nat} {l : List Nat} {k m : Nat} (h : Two s f l k) (hp : Ph s m) (pk : Nat → Bool) : Three (crashS pk s) f l k := by
  refine ⟨rfl, (good_settle hp.good pk).1, fun n hn => ?_⟩
  have hL := hp.good.1
  have hN := hp.good.2.1
  rcases crash_at h.app pk n (by omega) (by omega) with g | ⟨j, hj, g⟩
  · exact ⟨f n, (h.last n hn).2, g.trans (h.last n hn).1, .inl rfl⟩
  · rw [h.len] at hj
    have hw := h.wait j hj
    rw [hw.1] at g
    have e := Option.some.inj g
    have e1 : (j * 3) % 8 = n := congrArg Prod.fst e
    have e2 : bstr (fullL (l.getD j 0)) = (crashS pk s).N.getD n ⟨#[]⟩ := congrArg Prod.snd e
    exact ⟨l.getD j 0, hw.2, e2.symm, .inr ⟨j, hj, e1, rfl⟩⟩
end Go.Proofs.Ytnbmmlepbifciaa
