/-
  The law DiskApart: rows of acts, a write and a barrier of an unarmed disk, the same bytes.
-/
import Derived.Test.YtnbmmlepbifciaaDiskP
import Derived.Deep.Slices
import Derived.Deep.Fields
namespace Go.Proofs.Ytnbmmlepbifciaa
open Go.ChangeShapes Go.WideShapes Go.ChangeAt Go.RowKit Go.Deep
set_option linter.unusedVariables false

/-- a struct's one-cell fields, read one by one -/
theorem fields_of {H : Type} {enc : TypeId × Value → H} {P : Program} {w : World} {base : Nat} {spare : Nat → Bool} {held : Bool} {e : TypeId} {fs : Array Field} {fuel : Nat} {ad : Addr} {cs : List Value} {x : DataW H × List MemPlace}
    (he : P.underlying e = some (.struct fs)) (hone : ∀ (j : Nat) (f : Field), fs[j]? = some f → f.offset = j ∧ P.cellsOf f.type = 1) (hc : w.cells? base ad fs.size = some cs) (h : DataW.trod enc P w base spare held fuel e cs = some x) (j : Nat) (f : Field) (hj : fs[j]? = some f) :
    ∃ v y n, w.cell? (ad.add j) = some v ∧ DataW.trod enc P w base spare held n f.type [v] = some y := by
  obtain ⟨ys, n, _, _, _, hyl, hg⟩ := DataW.trod_struct he h
  obtain ⟨_, hcl, hat⟩ := World.cells?_some hc
  obtain ⟨ho, hk⟩ := hone j f hj
  have hjl : j < fs.size := (Array.getElem?_eq_some_iff.1 hj).1
  have hjc : j < cs.length := by omega
  have h1 := hg j f hj
  rw [ho, hk, List.drop_eq_getElem_cons hjc] at h1
  have h2 : DataW.trod enc P w base spare held n f.type [cs[j]] = ys[j]? := h1
  have hjy : j < ys.length := by omega
  rw [List.getElem?_eq_getElem hjy] at h2
  exact ⟨cs[j], ys[j], n, by rw [hat j hjl, List.getElem?_eq_getElem hjc], h2⟩

/-- what the walk reads of an act: what, its number, its byte -/
def ActRow (w : World) (a : Option Addr) (n : Nat) (ts : Nat → Int × Int × Nat) : Prop :=
  n ≤ maxLen ∧ (0 < n → ∃ b o, a = some ⟨b, o, none⟩ ∧ ∀ i, i < n → w.cell? ⟨b, o + i * 5, none⟩ = some (.int .i64 (ts i).1) ∧ w.cell? ⟨b, o + i * 5 + 1, none⟩ = some (.int .i64 (ts i).2.1) ∧ w.cell? ⟨b, o + i * 5 + 2, none⟩ = some (.int .u8 ((ts i).2.2 : Int)) ∧ (ts i).2.2 < 256)
theorem acts_of {H : Type} {enc : TypeId × Value → H} {w : World} {a : Option Addr} {len cap : Nat} {d : DataW H} {p : List MemPlace} (h : DataW.Trod enc Try.prog w 0 (fun _ => true) true 42 (.slice a len cap) d p) : ∃ ts, ActRow w a len ts := by
  obtain ⟨fuel, hf⟩ := h
  rcases open_slice Try.underlying42 hf with ⟨hcs, _⟩ | ⟨x, l, c, m, n, D, Pl, hcs, _, hl, hm, hmm, _, hi⟩
  · simp [Value.cells] at hcs
    obtain ⟨rfl, rfl, rfl⟩ := hcs
    exact ⟨fun _ => (0, 0, 0), Nat.zero_le _, fun h => by omega⟩
  · simp [Value.cells] at hcs
    obtain ⟨rfl, rfl, rfl⟩ := hcs
    simp only [if_true] at hmm
    subst hmm
    have hC : Try.prog.cellsOf 44 = 5 := by kernel_rfl
    rw [hC] at hi
    have hall : ∀ i, i < len → ∃ t : Int × Int × Nat, w.cell? (x.add (i * 5)) = some (.int .i64 t.1) ∧ w.cell? ((x.add (i * 5)).add 1) = some (.int .i64 t.2.1) ∧ w.cell? ((x.add (i * 5)).add 2) = some (.int .u8 (t.2.2 : Int)) ∧ t.2.2 < 256 := by
      intro i hil
      obtain ⟨cs', hc, ht⟩ := hi i (by omega)
      have hF := fields_of Try.underlying44 (hone_of (by kernel_rfl)) hc ht
      obtain ⟨v0, y0, n0, c0, t0⟩ := hF 0 _ rfl
      obtain ⟨v1, y1, n1, c1, t1⟩ := hF 1 _ rfl
      obtain ⟨v2, y2, n2, c2, t2⟩ := hF 2 _ rfl
      obtain ⟨z0, e0, _, _⟩ := DataW.trod_int Try.underlying3 t0
      obtain ⟨z1, e1, _, _⟩ := DataW.trod_int Try.underlying3 t1
      obtain ⟨z2, e2, _, r2⟩ := DataW.trod_int Try.underlying5 t2
      injection e0 with e0
      injection e1 with e1
      injection e2 with e2
      subst e0 e1 e2
      have hb : 0 ≤ z2 ∧ z2 ≤ 255 := by
        simpa [Lit.wf, IntKind.min, IntKind.max, IntKind.signed, IntKind.bits] using r2
      refine ⟨(z0, z1, z2.toNat), by simpa [Addr.add] using c0, c1, ?_, by dsimp only; omega⟩
      rw [c2]
      have e : ((z2.toNat : Nat) : Int) = z2 := by omega
      dsimp only
      rw [e]
    obtain ⟨ts, hts⟩ : ∃ ts : Nat → Int × Int × Nat, ∀ i, i < len → w.cell? (x.add (i * 5)) = some (.int .i64 (ts i).1) ∧ w.cell? ((x.add (i * 5)).add 1) = some (.int .i64 (ts i).2.1) ∧ w.cell? ((x.add (i * 5)).add 2) = some (.int .u8 ((ts i).2.2 : Int)) ∧ (ts i).2.2 < 256 :=
      ⟨fun i => if h : i < len then Classical.choose (hall i h) else (0, 0, 0), fun i h => by
        simp only [dif_pos h]
        exact Classical.choose_spec (hall i h)⟩
    refine ⟨ts, by omega, fun h0 => ?_⟩
    obtain ⟨b, off, spot⟩ := x
    have hc0 := (hts 0 h0).1
    have hspot : spot = none := by simpa [Addr.add] using World.cell?_spot hc0
    subst hspot
    refine ⟨b, off, rfl, fun i hil => ?_⟩
    obtain ⟨c0, c1, c2, c3⟩ := hts i hil
    have e1 : (⟨b, off, none⟩ : Addr).add (i * 5) = ⟨b, off + i * 5, none⟩ := add_plain b off (i * 5)
    rw [e1] at c0 c1 c2
    exact ⟨c0, by simpa [Addr.add] using c1, by simpa [Addr.add] using c2, c3⟩
theorem ActRow.at_ {w : World} {a : Option Addr} {n : Nat} {ts : Nat → Int × Int × Nat} (h : ActRow w a n ts) {k : Nat} (hk : k < n) :
    ∃ b o : Nat, b < w.heap.size ∧ (w.cell? ⟨b, o, none⟩ = some (.int .i64 (ts k).1) ∧ w.cell? ⟨b, o + 1, none⟩ = some (.int .i64 (ts k).2.1) ∧ w.cell? ⟨b, o + 2, none⟩ = some (.int .u8 ((ts k).2.2 : Int))) ∧ (ts k).2.2 < 256 ∧ ∀ (cap : Nat) (W : World), (Instr.indexAt 42 (.slice a n cap) (.int .i64 (k : Int))).run Try.prog W = .ok (.pointer (some ⟨b, o, none⟩)) W := by
  obtain ⟨_, h4⟩ := h
  obtain ⟨b, o, rfl, hc⟩ := h4 (by omega)
  obtain ⟨c0, c1, c2, c3⟩ := hc k hk
  refine ⟨b, o + k * 5, cell_lt c0, ⟨c0, c1, c2⟩, c3, fun cap W => ?_⟩
  have h1 : (0 : Int) ≤ (k : Int) := by omega
  have h2 : (k : Int) < (n : Int) := by omega
  clear hc h4
  go_simp

/-- unarmed, on, behind at most m changes; six sectors -/
structure Qt (s : DSt) (m : Nat) : Prop where
  good : Good s 6
  armed : s.armed = false
  left : s.left = 0
  off : s.off = false
  steps : 0 ≤ s.steps ∧ s.steps ≤ (m : Int)
  waits : s.W.length ≤ m
theorem Qt.chg {s : DSt} {m : Nat} (h : Qt s m) : Go.Proofs.Ytnbmmlepbifciaa.chg s = { s with steps := s.steps + 1 } ∧ chgE s = 0 := by
  have hne : ¬ (s.armed = true ∧ s.left = 0) := fun hh => by rw [h.armed] at hh; cases hh.1
  refine ⟨?_, if_neg hne⟩
  unfold Go.Proofs.Ytnbmmlepbifciaa.chg
  rw [if_neg hne, if_neg (by rw [h.armed]; decide)]
theorem Qt.wr {s : DSt} {m : Nat} (h : Qt s m) (j : Nat) (hj : j < 6) (x : ByteArray) (hx : x.size = 512) : Qt (Go.Proofs.Ytnbmmlepbifciaa.wr s j x) (m + 1) := by
  have e := h.chg.1
  have hs := h.steps
  refine ⟨good_wr h.good j hj x hx, ?_, ?_, ?_, ?_, ?_⟩
  · unfold Go.Proofs.Ytnbmmlepbifciaa.wr; rw [e]; exact h.armed
  · unfold Go.Proofs.Ytnbmmlepbifciaa.wr; rw [e]; exact h.left
  · unfold Go.Proofs.Ytnbmmlepbifciaa.wr; rw [e]; exact h.off
  · unfold Go.Proofs.Ytnbmmlepbifciaa.wr; rw [e]; dsimp only; omega
  · unfold Go.Proofs.Ytnbmmlepbifciaa.wr; dsimp only; rw [List.length_append]; have := h.waits; simp; omega
theorem Qt.barrier {s : DSt} {m : Nat} (h : Qt s m) : Qt (settleS (fun _ => true) (Go.Proofs.Ytnbmmlepbifciaa.chg s)) (m + 1) := by
  have e := h.chg.1
  have hs := h.steps
  refine ⟨good_settle (good_chg h.good) _, ?_, ?_, ?_, ?_, Nat.zero_le _⟩
  · rw [e]; exact h.armed
  · rw [e]; exact h.left
  · rw [e]; exact h.off
  · rw [e]; show 0 ≤ s.steps + 1 ∧ s.steps + 1 ≤ _; omega
theorem Qt.mono {s : DSt} {m k : Nat} (h : Qt s m) (hk : m ≤ k) : Qt s k := by
  have hs := h.steps
  have hw := h.waits
  exact ⟨h.good, h.armed, h.left, h.off, by omega, by omega⟩
theorem Qt.bounds {s : DSt} {m : Nat} (h : Qt s m) (hm : m ≤ 1000) : (0 ≤ s.steps ∧ s.steps < 4611686018427387904) ∧ (0 ≤ s.left ∧ s.left < 4611686018427387904) ∧ s.W.length < 1000000 := by
  have h1 := h.steps
  have h2 := h.left
  have h3 := h.waits
  exact ⟨by omega, by omega, by omega⟩
theorem qt_new : Qt ⟨List.replicate 6 blank, List.replicate 6 blank, [], false, 0, false, 0⟩ 0 := ⟨good_new 6, rfl, rfl, rfl, ⟨Int.le_refl _, Int.le_refl _⟩, Nat.le_refl _⟩
theorem qt_copy {s : DSt} {m : Nat} (h : Qt s m) : Qt ⟨s.L, s.L, [], false, 0, false, 0⟩ 0 := ⟨⟨h.good.1, h.good.1, h.good.2.2.1, h.good.2.2.1, fun x hx => by cases hx⟩, rfl, rfl, rfl, ⟨Int.le_refl _, Int.le_refl _⟩, Nat.le_refl _⟩

/-- what a call on a disk leaves: it is on, in its blocks or new ones -/
def Left (w w' : World) (F : Nat → Prop) (p m : Nat) : Prop := ∃ s' F', DiskAt w' F' p s' ∧ Qt s' m ∧ (∀ k, F' k → F k ∨ w.heap.size ≤ k) ∧ Only F w w'
theorem writeQ (w : World) (F : Nat → Prop) (p : Nat) (s : DSt) (n : Int) (g x m : Nat) (h : DiskAt w F p s) (hq : Qt s m) (hm : m ≤ 1000) (hb : ByteRow w (some ⟨g, 0, none⟩) 512 (fullL x)) (hg : ¬ F g) :
    Calls Try.prog 8 #[.pointer (some ⟨p, 0, none⟩), .int .i64 n, .slice (some ⟨g, 0, none⟩) 512 512] w fun e w' => ∃ c : Int, e = .returned (.int .i64 c) ∧ Left w w' F p (m + 1) := by
  have hbd := hq.bounds hm
  by_cases hn : 0 ≤ n ∧ n < (s.L.length : Int)
  · obtain ⟨j, rfl⟩ : ∃ j : Nat, n = (j : Int) := ⟨n.toNat, by omega⟩
    have hj : j < s.L.length := by omega
    refine (write_ok w F p s j (some ⟨g, 0, none⟩) 512 (fullL x) h hq.off hj hb (fun y hy => by cases hy; exact hg) hbd.1 hbd.2.1 hbd.2.2 hq.chg.2).mono ?_
    rintro e w' ⟨rfl, hd, ho⟩
    refine ⟨0, rfl, _, _, hd, hq.wr j (by rw [hq.good.1] at hj; exact hj) _ (bstr_full_size x), fun k hk => ?_, ho⟩
    rcases hk with hk | hk
    · exact .inl hk
    · exact .inr hk.1
  · refine (write_arg w F p s n (some ⟨g, 0, none⟩) 512 h hq.off hn).mono ?_
    rintro e w' ⟨rfl, rfl⟩
    exact ⟨1, rfl, s, F, h, hq.mono (by omega), fun k hk => .inl hk, Only.refl _ _⟩
theorem barrierQ (w : World) (F : Nat → Prop) (p : Nat) (s : DSt) (m : Nat) (h : DiskAt w F p s) (hq : Qt s m) (hm : m ≤ 1000) :
    Calls Try.prog 10 #[.pointer (some ⟨p, 0, none⟩)] w fun e w' => ∃ c : Int, e = .returned (.int .i64 c) ∧ Left w w' F p (m + 1) := by
  have hbd := hq.bounds hm
  refine (barrier_ok w F p s h hq.off hbd.1 hbd.2.1 hq.chg.2).mono ?_
  rintro e w' ⟨rfl, hd, ho⟩
  exact ⟨0, rfl, _, _, hd, hq.barrier, fun k hk => .inl hk, ho⟩

theorem img_inj : ∀ (L M : List ByteArray), L.length = M.length → (∀ b ∈ L, b.size = 512) → (∀ b ∈ M, b.size = 512) → img L = img M → L = M
  | [], [], _, _, _, _ => rfl
  | [], _ :: _, h, _, _, _ => by simp at h
  | _ :: _, [], h, _, _, _ => by simp at h
  | a :: L, b :: M, h, hL, hM, e => by
    unfold img at e
    rw [List.flatMap_cons, List.flatMap_cons] at e
    have ha := hL a (List.mem_cons_self ..)
    have hb := hM b (List.mem_cons_self ..)
    have e2 := List.append_inj e (by rw [bytesOf_length, bytesOf_length, ha, hb])
    have e3 : a = b := by rw [← bstr_bytesOf a, ← bstr_bytesOf b, e2.1]
    have e4 := img_inj L M (by simpa using h) (fun c hc => hL c (List.mem_cons_of_mem _ hc)) (fun c hc => hM c (List.mem_cons_of_mem _ hc)) e2.2
    rw [e3, e4]
theorem same_img {s t : DSt} {k : Nat} (h : Good s k) (h' : Good t k) : (bstr (img s.L) = bstr (img t.L)) ↔ s.L = t.L := by
  refine ⟨fun e => ?_, fun e => by rw [e]⟩
  refine img_inj _ _ (h.1.trans h'.1.symm) h.2.2.1 h'.2.2.1 ?_
  rw [← bytesOf_bstr (img s.L) (img_lt _), ← bytesOf_bstr (img t.L) (img_lt _), e]
theorem same_bool {s t : DSt} {k : Nat} (h : Good s k) (h' : Good t k) : ((bstr (img s.L)).toList == (bstr (img t.L)).toList) = decide (s.L = t.L) := by
  by_cases g : s.L = t.L
  · rw [decide_eq_true g, g]
    exact beq_self_eq_true _
  · rw [decide_eq_false g]
    exact texts_ne (fun e => g ((same_img h h').1 e))
theorem Good.sizes {s : DSt} {k : Nat} (h : Good s k) (i : Nat) (hi : i < s.L.length) : (s.L.getD i ⟨#[]⟩).size = 512 := by
  rw [List.getD_eq_getElem?_getD, List.getElem?_eq_getElem hi]
  exact h.2.2.1 _ (List.getElem_mem hi)
/-- an image as a text -/
theorem imageQ (w : World) (F : Nat → Prop) (p : Nat) (s : DSt) (m : Nat) (h : DiskAt w F p s) (hq : Qt s m) :
    Calls Try.prog 16 #[.pointer (some ⟨p, 0, none⟩)] w fun e w' => ∃ g c : Nat, e = .returned (.slice (some ⟨g, 0, none⟩) 3072 c) ∧ (convert 22 9 (.slice (some ⟨g, 0, none⟩) 3072 c)).run Try.prog w' = .ok (.string (bstr (img s.L))) w' ∧ (∀ W, Below w'.heap.size w' W → (convert 22 9 (.slice (some ⟨g, 0, none⟩) 3072 c)).run Try.prog W = .ok (.string (bstr (img s.L))) W) ∧ Below w.heap.size w w' := by
  have hl := hq.good.1
  refine (image_any w F p s h (by omega) (fun i hi => hq.good.sizes i hi)).mono ?_
  rintro e w' ⟨g, c, rfl, hr, hg, hb⟩
  rw [hl] at hr
  refine ⟨g, c, by rw [hl], conv_row c hr, fun W hW => conv_row c (hr.only (Only.of_below (F := fun _ => False) hW) (fun _ _ h => h)), hb⟩
theorem DiskAt.belowB {w w' : World} {F : Nat → Prop} {p : Nat} {s : DSt} {B : Nat} (h : DiskAt w F p s) (hb : Below B w w') (hF : ∀ k, F k → k < B) : DiskAt w' F p s :=
  h.keep (G := fun k => B ≤ k) ⟨hb.os, hb.tape, hb.output, hb.size, fun k _ hk => hb.block k (by omega)⟩ (fun k hk => by have := hF k hk; omega)
end Go.Proofs.Ytnbmmlepbifciaa
