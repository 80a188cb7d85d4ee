/-
  Texts put together: WalX, WalZ, WfA, WfB.
-/
import Derived.Test.YtpbehgjpajjfkaaDoorMgF
import Derived.Deep.Slices
import Derived.Deep.Fields
import Derived.Deep.DeepCutAuto
import Derived.Deep.CutBlock
namespace Go.Proofs.YtpbehgjpajjfkaaDoor
open Go.ChangeShapes Go.WideShapes Go.ChangeAt Go.RowKit
set_option linter.unusedVariables false
set_option maxRecDepth 100000

theorem mod_cut (c : Int) (m : Nat) (h : 0 < m) (h7 : m ≤ 7000) : ∃ q : Nat, q < m ∧ wrap64 ((IntKind.u64.wrap c).tmod (m : Int)) = (q : Int) := by
  have h1 : 0 ≤ IntKind.u64.wrap c := (IntKind.wrap_u64 c).symm ▸ (by omega)
  rw [Int.tmod_eq_emod_of_nonneg h1]
  refine ⟨(IntKind.u64.wrap c % (m : Int)).toNat, ?_, ?_⟩
  · have := Int.emod_lt_of_pos (IntKind.u64.wrap c) (show (0 : Int) < m by omega)
    have := Int.emod_nonneg (IntKind.u64.wrap c) (show (m : Int) ≠ 0 by omega)
    omega
  · have := Int.emod_lt_of_pos (IntKind.u64.wrap c) (show (0 : Int) < m by omega)
    have := Int.emod_nonneg (IntKind.u64.wrap c) (show (m : Int) ≠ 0 by omega)
    rw [wrap_id _ (by omega) (by omega)]
    omega
theorem row_take {w : World} {a : Option Addr} {n m : Nat} {l : List Nat} (h : ByteRow w a n l) (hm : m ≤ n) : ByteRow w a m (l.take m) := by
  obtain ⟨h1, h2, h3, h4⟩ := h
  refine ⟨by rw [List.length_take]; omega, by omega, fun c hc => h3 c (List.mem_of_mem_take hc), fun h0 => ?_⟩
  obtain ⟨b, o, e, hc⟩ := h4 (by omega)
  refine ⟨b, o, e, fun i hi => ?_⟩
  rw [hc i (by omega)]
  rw [List.getD_eq_getElem?_getD, List.getD_eq_getElem?_getD, List.getElem?_take, if_pos hi]
/-- where a record of an elder age stands, none of this age does -/
theorem bad_elder {s : LSt} {N : List ByteArray} {B : List Nat} {age n : Nat} (h : s.start N = startL (age : Int) (n : Int) B) (hlt : age < s.age) (ha : s.age < 4611686018427387904) : (Wr.readNum (s.age : Int) (s.age : Int) ((s.start N).drop 1) 0).2.2 ≠ 0 := by
  obtain ⟨R, hR⟩ := startL_drop (age : Int) (n : Int) B
  rw [h, hR, readNum_other _ _ _ (by omega) (by omega) (.inl (by omega))]
  decide
def roundL (k : Nat) : LSt := ⟨2, 14, k % 2, k + 1, 0, 2⟩
/-- what stands on the disk when k rounds are over -/
structure RoundOK (N : List ByteArray) (k K : Nat) : Prop where
  len : N.length = 18
  heads : Heads N (roundL k)
  bad : (Wr.readNum ((k + 1 : Nat) : Int) ((k + 1 : Nat) : Int) ((bytesOf (N.getD 4 ⟨#[]⟩)).drop 1) 0).2.2 ≠ 0
  clear : bytesOf (N.getD (7 + K) ⟨#[]⟩) = bytesOf blank
theorem RoundOK.none {N : List ByteArray} {k K : Nat} (h : RoundOK N k K) : NoRec N (roundL k) := noRec_bad (show 2 < 14 by decide) h.bad
theorem roundOK_zero (K : Nat) (hK : K ≤ 2) : RoundOK N18 0 K := by
  refine ⟨N18_length, fmt_heads _ _ _ (by decide) (by rw [blank18_length]; decide), ?_, ?_⟩
  · exact bad_blank (s := roundL 0) (N := N18) (by decide) (by show bytesOf (N18.getD 4 _) = _; rw [N18_blank _ (by decide) (by decide)])
  · rw [N18_blank _ (by omega) (by omega)]
/-- the sectors behind a round's two records -/
def roundN (N : List ByteArray) (k : Nat) (B : List Nat) : List ByteArray := appN (appN N (roundL k) B) ((roundL k).passed B.length) [k]
theorem roundN_length (N : List ByteArray) (k : Nat) (B : List Nat) : (roundN N k B).length = N.length := by unfold roundN; rw [appN_length, appN_length]
theorem roundN_out (N : List ByteArray) (k : Nat) (B : List Nat) (i : Nat) (d : ByteArray) (h : i < 4 ∨ 7 + sectorsN B.length ≤ i) : (roundN N k B).getD i d = N.getD i d := by
  have e1 : sectorsN ([k] : List Nat).length = 1 := show sectorsN 1 = 1 by decide
  unfold roundN
  rw [appN_out _ _ _ _ _ (by rw [e1]; show i < 2 + (2 + (1 + sectorsN B.length)) ∨ 2 + (2 + (1 + sectorsN B.length)) + (1 + 1) ≤ i; omega), appN_out _ _ _ _ _ (by show i < 2 + 2 ∨ 2 + 2 + (1 + sectorsN B.length) ≤ i; omega)]
theorem RoundOK.recs {N : List ByteArray} {k : Nat} {B : List Nat} (h : RoundOK N k (sectorsN B.length)) (h256 : ∀ c ∈ B, c < 256) (hK : sectorsN B.length ≤ 2) (hk : k < 12) : Recs (roundN N k B) (roundL k) [B, [k]] := by
  have e1 : sectorsN ([k] : List Nat).length = 1 := show sectorsN 1 = 1 by decide
  have e2 : (((roundL k).passed B.length).passed ([k] : List Nat).length).used = 2 + (1 + sectorsN B.length) + (1 + sectorsN ([k] : List Nat).length) := rfl
  rw [e1] at e2
  refine recs_two h256 (fun c hc => by rw [List.mem_singleton.1 hc]; omega) (by rw [e1]; show 2 + (1 + sectorsN B.length) + (1 + 1) ≤ 14; omega) (show 14 ≤ 30000 by decide) (by rw [h.len]; show 2 + 14 ≤ 18; decide) (show k + 1 < 4611686018427387904 by omega) (show 0 + 1 ≤ 65536 by decide) (noRec_bad (by rw [e2]; show _ < 14; omega) (bad_blank (show 1 ≤ k + 1 by omega) ?_))
  show bytesOf ((roundN N k B).getD (2 + (((roundL k).passed B.length).passed ([k] : List Nat).length).used) ⟨#[]⟩) = _
  rw [e2, roundN_out _ _ _ _ _ (by omega), show 2 + (2 + (1 + sectorsN B.length) + (1 + 1)) = 7 + sectorsN B.length by omega]
  exact h.clear
theorem RoundOK.heads2 {N : List ByteArray} {k K : Nat} (h : RoundOK N k K) (B : List Nat) : Heads (roundN N k B) (roundL k) := h.heads.congr ⟨rfl, rfl, rfl⟩ (fun i d hi => roundN_out _ _ _ _ _ (.inl hi))
def cutN (N : List ByteArray) (k : Nat) (B : List Nat) : List ByteArray := (roundN N k B).set (2 + (1 - k % 2)) (bstr (headL ((k + 1 + 1 : Nat) : Int)))
theorem RoundOK.next {N : List ByteArray} {k : Nat} {B : List Nat} (h : RoundOK N k (sectorsN B.length)) (hk : k < 12) : RoundOK (cutN N k B) (k + 1) (sectorsN B.length) := by
  have hl : (roundN N k B).length = 18 := by rw [roundN_length, h.len]
  refine ⟨by unfold cutN; rw [List.length_set, hl], ?_, ?_, ?_⟩
  · have hc := (h.heads2 B).cut (show 2 + 2 ≤ _ by rw [hl]; decide) (show k + 1 + 1 < 4611686018427387904 by omega)
    have e : (roundL k).cut = roundL (k + 1) := by
      show (⟨2, 14, 1 - k % 2, k + 1 + 1, 0, 2⟩ : LSt) = ⟨2, 14, (k + 1) % 2, k + 1 + 1, 0, 2⟩
      rw [show (k + 1) % 2 = 1 - k % 2 by omega]
    rw [e] at hc
    exact hc
  · have e : (roundL (k + 1)).start (cutN N k B) = startL ((k + 1 : Nat) : Int) ((0 : Nat) : Int) B := by
      show bytesOf ((cutN N k B).getD 4 _) = _
      unfold cutN
      rw [getD_set_ne _ _ _ _ _ (by omega)]
      unfold roundN
      rw [appN_out _ _ _ _ _ (.inl (show 4 < 2 + (2 + (1 + sectorsN B.length)) by omega))]
      exact appN_start N (roundL k) B (by rw [h.len]; show 2 + 2 < 18; decide)
    exact bad_elder (s := roundL (k + 1)) (age := k + 1) (n := 0) (B := B) e (Nat.lt_succ_self (k + 1)) (show k + 1 + 1 < 4611686018427387904 by omega)
  · unfold cutN
    rw [getD_set_ne _ _ _ _ _ (by omega), roundN_out _ _ _ _ _ (.inr (Nat.le_refl _))]
    exact h.clear
end Go.Proofs.YtpbehgjpajjfkaaDoor
namespace Go.Proofs.YtpbehgjpajjfkaaDoor
open Go.ChangeShapes Go.WideShapes Go.ChangeAt Go.RowKit
set_option linter.unusedVariables false
set_option maxRecDepth 100000

theorem fits_nil (f c : Int) (w : World) :
    Calls Tryd.prog 38 #[.pointer none, .int .i64 f, .int .i64 c] w fun e w' => e = .returned (.bool false) ∧ w = w' := by
  go_enter Tryd.func38, Tryd.ntmps38
  go_wp2
  go_ret
  exact ⟨rfl, rfl⟩
theorem fits_no (w : World) (F : Nat → Prop) (p m : Nat) (f c : Int) (N : List ByteArray) (h : Qd w F p N m) (hN : N.length ≤ 65536) (hf : (Lit.int .i64 f).wf = true) (hc : (Lit.int .i64 c).wf = true) (hno : f < 0 ∨ c < 3 ∨ (N.length : Int) - c < f) :
    Calls Tryd.prog 38 #[.pointer (some ⟨p, 0, none⟩), .int .i64 f, .int .i64 c] w fun e w' => e = .returned (.bool false) ∧ w = w' := by
  have H := Lib.hid (fun W (hW : w = W) => by subst hW; exact count_any w F p m N h)
  have hN2 : (N.length : Int) ≤ 65536 := by omega
  have hN0 : 0 ≤ (N.length : Int) := by omega
  have hc2 : c ≤ 9223372036854775807 ∧ -9223372036854775808 ≤ c := by
    simpa [Lit.wf, IntKind.min, IntKind.max, IntKind.signed, IntKind.bits, and_comm] using hc
  have hf2 : f ≤ 9223372036854775807 ∧ -9223372036854775808 ≤ f := by
    simpa [Lit.wf, IntKind.min, IntKind.max, IntKind.signed, IntKind.bits, and_comm] using hf
  obtain ⟨hc3, hc4⟩ := hc2
  clear h hf hc
  generalize (N.length : Int) = n at *
  by_cases h1 : f < 0
  · have h1' : ¬ 0 ≤ f := by omega
    have h1'' : decide (0 ≤ f) = false := by simpa using h1
    go_enter Tryd.func38, Tryd.ntmps38
    go_wp2
    go_ret
    exact ⟨rfl, rfl⟩
  · have h1' : 0 ≤ f := by omega
    by_cases h2 : c < 3
    · have h2' : ¬ 2 < c := by omega
      have h2'' : decide (2 < c) = false := by simp; omega
      clear hno
      go_enter Tryd.func38, Tryd.ntmps38
      go_wp2
      go_ret
      exact ⟨rfl, rfl⟩
    · have h2' : 2 < c := by omega
      have h3 : ¬ f ≤ n - c := by omega
      have h3'' : decide (f ≤ n - c) = false := by simpa using h3
      clear hno
      go_enter Tryd.func38, Tryd.ntmps38
      go_wp2_with (go_at_call 63; refine (H.out _ rfl).mono ?_; rintro e w1 ⟨rfl, rfl⟩)
      go_ret
      exact ⟨rfl, rfl⟩
theorem format_no (w : World) (d : Option Addr) (f c : Int) (hf : Calls Tryd.prog 38 #[.pointer d, .int .i64 f, .int .i64 c] w fun e w' => e = .returned (.bool false) ∧ w = w') :
    Calls Tryd.prog 27 #[.pointer d, .int .i64 f, .int .i64 c] w fun e w' => e = .returned (.int .i64 1) ∧ w = w' := by
  have H := Lib.hid hf
  clear hf
  go_enter Tryd.func27, Tryd.ntmps27
  go_wp2_with (go_at_call 38; refine H.out.mono ?_; rintro e w1 ⟨rfl, rfl⟩)
  go_ret
  exact ⟨rfl, rfl⟩
theorem open_no (w : World) (d : Option Addr) (f c : Int) (hf : Calls Tryd.prog 38 #[.pointer d, .int .i64 f, .int .i64 c] w fun e w' => e = .returned (.bool false) ∧ w = w') :
    Calls Tryd.prog 17 #[.pointer d, .int .i64 f, .int .i64 c] w fun e w' => e = .returned (.tuple #[.pointer none, .slice none 0 0, .int .i64 1]) ∧ w = w' := by
  have H := Lib.hid hf
  clear hf
  go_enter Tryd.func17, Tryd.ntmps17
  go_wp2_with (go_at_call 38; refine H.out.mono ?_; rintro e w1 ⟨rfl, rfl⟩)
  go_ret3
  exact ⟨rfl, rfl⟩
set_option maxHeartbeats 1000000 in
theorem append_full (w : World) (g p n cap : Nat) (a : Option Addr) (s : LSt) (hl : LogAt w g p s) (hn : n ≤ 16777216) (hu : s.used ≤ s.c) (hc : s.c ≤ 30000) (hfull : roomL s < (n : Int)) :
    Calls Tryd.prog 11 #[.pointer (some ⟨g, 0, none⟩), .slice a n cap] w fun e w' => e = .returned (.int .i64 7) ∧ Below w.heap.size w w' := by
  have HB1 : Hid (Below w.heap.size w (w.alloc (.cells #[.pointer (some ⟨g, 0, none⟩)] 25))) := Lib.hid ((Below.refl _ _).alloc (Nat.le_refl _) _)
  have HR := Lib.hid (room_any _ g p s (hl.below HB1.out) hu hc)
  have hR3i : (n : Int) ≤ 16777216 := by omega
  generalize roomL s = r at *
  clear hl
  go_enter Tryd.func11, Tryd.ntmps11
  go_wp2_with (go_at_call 14; refine HR.out.mono ?_; rintro e w1 ⟨rfl, k, rfl⟩)
  go_ret
  exact ⟨rfl, Below.step (below_dN _ k) HB1.out HB1.out.size⟩
end Go.Proofs.YtpbehgjpajjfkaaDoor
namespace Go.Proofs.YtpbehgjpajjfkaaDoor
open Go.ChangeShapes Go.WideShapes Go.ChangeAt Go.RowKit Go.Deep
set_option linter.unusedVariables false
set_option maxRecDepth 100000

/-- a fresh log, with some records -/
structure Lg (w wr : World) (p g : Nat) (F : Nat → Prop) (s : LSt) (N : List ByteArray) (m : Nat) : Prop where
  log : LogAt wr g p s
  disk : Qd wr F p N m
  notF : ¬ F g
  new : ∀ j, F j → w.heap.size ≤ j
  newG : w.heap.size ≤ g
  below : Below w.heap.size w wr
  len : N.length = 18
  at_ : s.f = 2 ∧ s.c = 14
  head : s.head ≤ 1
  age : s.age ≤ 2
  used : 2 ≤ s.used ∧ s.used ≤ 14
  num : s.number + 2 ≤ s.used
theorem Lg.to {w wr wr' : World} {p g m : Nat} {F : Nat → Prop} {s : LSt} {N : List ByteArray} (h : Lg w wr p g F s N m) (hb : Below wr.heap.size wr wr') : Lg w wr' p g F s N m :=
  ⟨h.log.below hb, h.disk.below hb, h.notF, h.new, h.newG, Below.step hb h.below h.below.size, h.len, h.at_, h.head, h.age, h.used, h.num⟩
theorem Fresh.lg {w w' : World} {p g : Nat} {F : Nat → Prop} (h : Fresh w w' p g F) : Lg w w' p g F s18 N18 17 :=
  ⟨h.log, h.disk, h.notF, h.new, h.newG, h.below, N18_length, ⟨rfl, rfl⟩, Nat.zero_le _, (by decide : (1 : Nat) ≤ 2), ⟨Nat.le_refl _, (by decide : (2 : Nat) ≤ 14)⟩, (by decide : (0 : Nat) + 2 ≤ 2)⟩
theorem lg_append (w wr : World) (p g m n cap : Nat) (F : Nat → Prop) (a : Option Addr) (s : LSt) (N : List ByteArray) (B : List Nat) (h : Lg w wr p g F s N m) (hB : ByteRow wr a n B) (hnc : n ≤ cap) (hcm : cap ≤ maxLen) (ha : 0 < n → ∀ x, a = some x → ¬ F x.block ∧ x.block ≠ g) (hn : n ≤ 16777216) (hm : m ≤ 500000) (ht : Cr.Tab w) :
    Calls Tryd.prog 11 #[.pointer (some ⟨g, 0, none⟩), .slice a n cap] wr fun e w' => ∃ r s' F' N', e = .returned (.int .i64 r) ∧ ((r = 0 ∧ s.used + (1 + sectorsN n) ≤ 14 ∧ s'.used = s.used + (1 + sectorsN n)) ∨ (r = 7 ∧ 14 < s.used + (1 + sectorsN n) ∧ s' = s)) ∧ s'.age = s.age ∧ Lg w w' p g F' s' N' (m + 20) := by
  obtain ⟨e1, e2⟩ := h.at_
  have hu := h.used
  have hnum := h.num
  have hage := h.age
  have hs := h.below.size
  have hq : 0 < w.heap.size := cell_lt (ht 0 (by decide))
  by_cases hroom : s.used + (1 + sectorsN n) ≤ s.c
  · refine (append_ok wr F g p m n cap a s N B h.disk h.log h.notF hB hnc hcm ha hroom (by omega) (by rw [h.len]; omega) (by rw [h.len]; decide) (by omega) (by omega) (by omega) (Cr.Tab.below ht h.below) (fun hF => by have := h.new _ hF; omega)).mono ?_
    rintro e w' ⟨rfl, hl', ⟨F', hq', hs'⟩, ho⟩
    have hon : ∀ j, (F j ∨ j = g) → w.heap.size ≤ j := fun j hj => by
      rcases hj with hj | hj
      · exact h.new j hj
      · rw [hj]; exact h.newG
    refine ⟨0, s.passed n, F', appN N s B, rfl, .inl ⟨rfl, by omega, rfl⟩, rfl, hl', hq'.more (by omega), fun hg => (hs' _ hg).2 rfl, fun j hj => ?_, h.newG, h.below.trans (ho.below hs hon), by rw [appN_length]; exact h.len, h.at_, h.head, h.age, ⟨by show 2 ≤ s.used + (1 + sectorsN n); omega, by show s.used + (1 + sectorsN n) ≤ 14; omega⟩, by show s.number + 1 + 2 ≤ s.used + (1 + sectorsN n); omega⟩
    rcases (hs' j hj).1 with h1 | h1
    · exact h.new j h1
    · omega
  · have hfull : roomL s < (n : Int) := by
      unfold roomL
      unfold sectorsN at hroom
      split
      · omega
      · omega
    refine (append_full wr g p n cap a s h.log hn (by omega) (by omega) hfull).mono ?_
    rintro e w' ⟨rfl, hb⟩
    have h' := h.to hb
    exact ⟨7, s, F, N, rfl, .inr ⟨rfl, by omega, rfl⟩, rfl, h'.log, h'.disk.more (by omega), h'.notF, h'.new, h'.newG, h'.below, h'.len, h'.at_, h'.head, h'.age, h'.used, h'.num⟩
theorem make_len (n : Nat) (hn : n ≤ 70368744177664) (u : World) : (Instr.makeSlice 34 (.int .i64 (n : Int)) (.int .i64 (n : Int))).run Tryd.prog u = .ok (.slice (some ⟨u.heap.size, 0, none⟩) n n) (u.alloc (.cells (madeCells #[.int .u8 0] n) 5)) := by
  obtain ⟨i0, hi, hz0, hz1, hz2⟩ := info_parts Cr.info5
  have h := run_make (P := Tryd.prog) u 34 5 i0 (.int .u8 0) Tryd.underlying34 hi hz0 .i64 .i64 (n : Int) (n : Int) (by omega) (by omega) (by rw [hz2]; omega) (by omega)
  have e : ((n : Int)).toNat = n := by omega
  rw [e] at h
  simpa [hz1, Value.cells] using h
theorem made_row (n : Nat) (hn : n ≤ maxLen) (u : World) : ByteRow (u.alloc (.cells (madeCells #[.int .u8 0] n) 5)) (some ⟨u.heap.size, 0, none⟩) n (List.replicate n 0) := by
  refine ⟨List.length_replicate, hn, fun c hc => by rw [List.eq_of_mem_replicate hc]; decide, fun _ => ⟨_, 0, rfl, fun i hi => ?_⟩⟩
  have e : (madeCells #[.int .u8 0] n)[i]? = some (Value.int .u8 0) := by
    simp [madeCells, hi, Nat.mod_one]
  rw [Nat.zero_add, Cr.cell_new u _ _ _ _ i _ rfl e]
  congr 2
  rw [List.getD_eq_getElem?_getD, List.getElem?_replicate, if_pos hi]
  rfl
/-- a struct's one-cell fields, read one by one -/
theorem fields_of {H : Type} {enc : TypeId × Value → H} {P : Program} {w : World} {base : Nat} {spare : Nat → Bool} {held : Bool} {e : TypeId} {fs : Array Field} {fuel : Nat} {ad : Addr} {cs : List Value} {x : DataW H × List MemPlace}
    (he : P.underlying e = some (.struct fs)) (hone : ∀ (j : Nat) (f : Field), fs[j]? = some f → f.offset = j ∧ P.cellsOf f.type = 1) (hc : w.cells? base ad fs.size = some cs) (h : DataW.trod enc P w base spare held fuel e cs = some x) (j : Nat) (f : Field) (hj : fs[j]? = some f) :
    ∃ v y n, w.cell? (ad.add j) = some v ∧ DataW.trod enc P w base spare held n f.type [v] = some y := by
  obtain ⟨ys, n, _, _, _, hyl, hg⟩ := DataW.trod_struct he h
  obtain ⟨_, hcl, hat⟩ := World.cells?_some hc
  obtain ⟨ho, hk⟩ := hone j f hj
  have hjl : j < fs.size := (Array.getElem?_eq_some_iff.1 hj).1
  have hjc : j < cs.length := by omega
  have h1 := hg j f hj
  rw [ho, hk, List.drop_eq_getElem_cons hjc] at h1
  have h2 : DataW.trod enc P w base spare held n f.type [cs[j]] = ys[j]? := h1
  have hjy : j < ys.length := by omega
  rw [List.getElem?_eq_getElem hjy] at h2
  exact ⟨cs[j], ys[j], n, by rw [hat j hjl, List.getElem?_eq_getElem hjc], h2⟩

/-- what is read of an entry: its bytes -/
def EntryRow (w : World) (a : Option Addr) (n : Nat) (ts : Nat → Option Addr × Nat × Nat × List Nat) : Prop :=
  n ≤ maxLen ∧ (0 < n → ∃ b o, a = some ⟨b, o, none⟩ ∧ ∀ i, i < n → w.cell? ⟨b, o + i * 3 + 1, none⟩ = some (.slice (ts i).1 (ts i).2.1 (ts i).2.2.1) ∧ ByteRow w (ts i).1 (ts i).2.1 (ts i).2.2.2 ∧ (ts i).2.1 ≤ (ts i).2.2.1 ∧ (ts i).2.2.1 ≤ maxLen)
theorem row_of_trod {H : Type} {enc : TypeId × Value → H} {w : World} {n : Nat} {v : Value} {y : DataW H × List MemPlace} (h : DataW.trod enc Tryd.prog w 0 (fun _ => true) true n 34 [v] = some y) : ∃ (t : Option Addr × Nat × Nat × List Nat), v = .slice t.1 t.2.1 t.2.2.1 ∧ ByteRow w t.1 t.2.1 t.2.2.2 ∧ t.2.1 ≤ t.2.2.1 ∧ t.2.2.1 ≤ maxLen := by
  have hw : ∃ (a : Option Addr) (len cap : Nat) (zs : List Int), v = .slice a len cap ∧ Cr.IsRow .u8 w a len cap zs := by
    rcases open_ints Tryd.underlying34 Tryd.underlying5 (by kernel_rfl) h with ⟨hcs, _⟩ | ⟨x, l, c, zs, hcs, _, hl, hm, hz, _, hcell, hwz⟩
    · exact ⟨none, 0, 0, [], by simpa using hcs, .inl ⟨rfl, rfl, rfl, rfl⟩⟩
    · exact ⟨some x, l, c, zs, by simpa using hcs, .inr ⟨_, rfl, hl, hm, by simpa using hz, hcell, hwz⟩⟩
  obtain ⟨a, len, cap, zs, rfl, hr⟩ := hw
  obtain ⟨L, h1, h2, h3⟩ := Cr.row_bytes hr
  exact ⟨(a, len, cap, L), rfl, h1, h2, h3⟩
theorem entries_of {H : Type} {enc : TypeId × Value → H} {w : World} {a : Option Addr} {len cap : Nat} {d : DataW H} {p : List MemPlace} (h : DataW.Trod enc Tryd.prog w 0 (fun _ => true) true 22 (.slice a len cap) d p) : ∃ ts, EntryRow w a len ts := by
  obtain ⟨fuel, hf⟩ := h
  rcases open_slice Tryd.underlying22 hf with ⟨hcs, _⟩ | ⟨x, l, c, m, n, D, Pl, hcs, _, hl, hm, hmm, _, hi⟩
  · simp [Value.cells] at hcs
    obtain ⟨rfl, rfl, rfl⟩ := hcs
    exact ⟨fun _ => (none, 0, 0, []), Nat.zero_le _, fun h => by omega⟩
  · simp [Value.cells] at hcs
    obtain ⟨rfl, rfl, rfl⟩ := hcs
    simp only [if_true] at hmm
    subst hmm
    have hC : Tryd.prog.cellsOf 36 = 3 := by kernel_rfl
    rw [hC] at hi
    have hall : ∀ i, i < len → ∃ t : Option Addr × Nat × Nat × List Nat, (∃ u, w.cell? (x.add (i * 3)) = some u) ∧ w.cell? ((x.add (i * 3)).add 1) = some (.slice t.1 t.2.1 t.2.2.1) ∧ ByteRow w t.1 t.2.1 t.2.2.2 ∧ t.2.1 ≤ t.2.2.1 ∧ t.2.2.1 ≤ maxLen := by
      intro i hil
      obtain ⟨cs', hc, ht⟩ := hi i (by omega)
      have hF := fields_of Tryd.underlying36 (hone_of (by kernel_rfl)) hc ht
      obtain ⟨v0, y0, n0, c0, t0⟩ := hF 0 _ rfl
      obtain ⟨v1, y1, n1, c1, t1⟩ := hF 1 _ rfl
      obtain ⟨t, rfl, h1, h2, h3⟩ := row_of_trod t1
      exact ⟨t, ⟨v0, by simpa [Addr.add] using c0⟩, c1, h1, h2, h3⟩
    obtain ⟨ts, hts⟩ : ∃ ts : Nat → Option Addr × Nat × Nat × List Nat, ∀ i, i < len → (∃ u, w.cell? (x.add (i * 3)) = some u) ∧ w.cell? ((x.add (i * 3)).add 1) = some (.slice (ts i).1 (ts i).2.1 (ts i).2.2.1) ∧ ByteRow w (ts i).1 (ts i).2.1 (ts i).2.2.2 ∧ (ts i).2.1 ≤ (ts i).2.2.1 ∧ (ts i).2.2.1 ≤ maxLen :=
      ⟨fun i => if h : i < len then Classical.choose (hall i h) else (none, 0, 0, []), fun i h => by
        simp only [dif_pos h]
        exact Classical.choose_spec (hall i h)⟩
    refine ⟨ts, by omega, fun h0 => ?_⟩
    obtain ⟨b, off, spot⟩ := x
    obtain ⟨u0, hc0⟩ := (hts 0 h0).1
    have hspot : spot = none := by simpa [Addr.add] using World.cell?_spot hc0
    subst hspot
    refine ⟨b, off, rfl, fun i hil => ?_⟩
    obtain ⟨_, c1, h1, h2, h3⟩ := hts i hil
    have e1 : (⟨b, off, none⟩ : Addr).add (i * 3) = ⟨b, off + i * 3, none⟩ := Cr.addr_add b off (i * 3)
    rw [e1] at c1
    exact ⟨by simpa [Addr.add] using c1, h1, h2, h3⟩
theorem EntryRow.at_ {w : World} {a : Option Addr} {n : Nat} {ts : Nat → Option Addr × Nat × Nat × List Nat} (h : EntryRow w a n ts) {k : Nat} (hk : k < n) :
    ∃ b o : Nat, b < w.heap.size ∧ w.cell? ⟨b, o + 1, none⟩ = some (.slice (ts k).1 (ts k).2.1 (ts k).2.2.1) ∧ ByteRow w (ts k).1 (ts k).2.1 (ts k).2.2.2 ∧ (ts k).2.1 ≤ (ts k).2.2.1 ∧ (ts k).2.2.1 ≤ maxLen ∧ ∀ (cap : Nat) (W : World), (Instr.indexAt 22 (.slice a n cap) (.int .i64 (k : Int))).run Tryd.prog W = .ok (.pointer (some ⟨b, o, none⟩)) W := by
  obtain ⟨_, h4⟩ := h
  obtain ⟨b, o, rfl, hc⟩ := h4 (by omega)
  obtain ⟨c1, c2, c3, c4⟩ := hc k hk
  refine ⟨b, o + k * 3, cell_lt c1, c1, c2, c3, c4, fun cap W => ?_⟩
  have h1 : (0 : Int) ≤ (k : Int) := by omega
  have h2 : (k : Int) < (n : Int) := by omega
  clear hc h4 c1 c2 c3 c4
  go_simp
end Go.Proofs.YtpbehgjpajjfkaaDoor
namespace Go.Proofs.YtpbehgjpajjfkaaDoor
open Go.ChangeShapes Go.WideShapes Go.ChangeAt Go.RowKit
set_option linter.unusedVariables false
set_option maxRecDepth 100000

abbrev Tab := Cr.Tab
theorem sliceTo (a : Option Addr) (len cap m : Nat) (h1 : m ≤ cap) (hc : cap ≤ maxLen) (w : World) : (Instr.slice 34 (.slice a len cap) none (some (.int .i64 (m : Int))) none).run Tryd.prog w = .ok (.slice a m cap) w := by
  rw [run_slice_h w 34 a len cap (by kernel_rfl) .i64 (m : Int) (by omega) (by omega)]
  go_simp
theorem row_old {w : World} {a : Option Addr} {n : Nat} {l : List Nat} (h : ByteRow w a n l) (h0 : 0 < n) : ∀ x, a = some x → x.block < w.heap.size := by
  intro x hx
  obtain ⟨b, o, e, hc⟩ := h.2.2.2 h0
  rw [hx] at e
  obtain rfl := Option.some.inj e
  have := cell_lt (hc 0 h0)
  exact this
/-- how many sectors a log has used, read off the world (a loop's measure) -/
def usedOf (w : World) (g : Nat) : Nat := match w.cell? ⟨g, 7, none⟩ with
  | some (.int _ n) => n.toNat
  | _ => 0
theorem usedOf_log {w : World} {g p : Nat} {s : LSt} (h : LogAt w g p s) : usedOf w g = s.used := by
  unfold usedOf
  rw [h.at_.2.2.2.2.2.1]
  rfl
theorem lg_room {w W : World} {p g m : Nat} {F : Nat → Prop} {s : LSt} {N : List ByteArray} (h : Lg w W p g F s N m) : Calls Tryd.prog 14 #[.pointer (some ⟨g, 0, none⟩)] W fun e w' => e = .returned (.int .i64 (roomL s)) ∧ Below W.heap.size W w' := by
  have h1 := h.at_
  have h2 := h.used
  refine (room_any W g p s h.log (by omega) (by omega)).mono ?_
  rintro e w' ⟨rfl, n, rfl⟩
  exact ⟨rfl, below_dN W n⟩
theorem Lg.more {w W : World} {p g m m' : Nat} {F : Nat → Prop} {s : LSt} {N : List ByteArray} (h : Lg w W p g F s N m) (hm : m ≤ m') : Lg w W p g F s N m' :=
  ⟨h.log, h.disk.more hm, h.notF, h.new, h.newG, h.below, h.len, h.at_, h.head, h.age, h.used, h.num⟩
theorem lg_truncate {w W : World} {p g m : Nat} {F : Nat → Prop} {s : LSt} {N : List ByteArray} (h : Lg w W p g F s N m) (ha : s.age = 1) (hm : m ≤ 500000) (ht : Cr.Tab w) : Calls Tryd.prog 12 #[.pointer (some ⟨g, 0, none⟩)] W fun e w' => e = .returned (.int .i64 0) ∧ ∃ F' N', Lg w w' p g F' s.cut N' (m + 2) := by
  have hs := h.below.size
  have hat := h.at_
  have hq : 0 < w.heap.size := cell_lt (ht 0 (by decide))
  refine (truncate_any W F g p m s N h.disk h.log h.notF h.head (by rw [hat.1, h.len]; decide) (by rw [h.len]; decide) (by omega) (by omega) (Cr.Tab.below ht h.below) (fun hF => by have := h.new _ hF; omega)).mono ?_
  rintro e w' ⟨rfl, hl, ⟨F', hq', hs'⟩, ho⟩
  have hon : ∀ j, (F j ∨ j = g) → w.heap.size ≤ j := fun j hj => by
    rcases hj with hj | hj
    · exact h.new j hj
    · rw [hj]; exact h.newG
  refine ⟨rfl, F', _, hl, hq', fun hg => (hs' _ hg).2 rfl, fun j hj => ?_, h.newG, h.below.trans (ho.below hs hon), by rw [List.length_set]; exact h.len, h.at_, by show 1 - s.head ≤ 1; omega, by show s.age + 1 ≤ 2; omega, ⟨Nat.le_refl _, (by decide : (2 : Nat) ≤ 14)⟩, (by decide : (0 : Nat) + 2 ≤ 2)⟩
  rcases (hs' j hj).1 with h1 | h1
  · exact h.new j h1
  · omega
set_option maxHeartbeats 4000000 in
theorem full_walk (a : Option Addr) (len cap : Nat) (ts : Nat → Option Addr × Nat × Nat × List Nat) (less : Int) (w : World) (hrow : EntryRow w a len ts) (ht : Cr.Tab w) :
    Calls Tryd.prog 7 #[.slice a len cap, .int .i64 less] w fun e w' => e = .returned (.bool true) ∧ Below w.heap.size w w' := by
  have HT := Lib.hid ht
  have HROW := Lib.hid hrow
  have HFr := Lib.hid (fresh_any w ht)
  clear ht hrow
  go_enter Tryd.func7, Tryd.ntmps7
  go_wp2_with (first
    | (go_at_call 15; refine HFr.out.mono ?_; clear HFr; rintro e w1 ⟨p, g, F, rfl, hfr⟩; have HF := Lib.hid hfr.lg; clear hfr)
    | (go_at_call 9; refine (logs_any _ (Cr.Tab.below HT.out HF.out.below)).mono ?_; rintro e w2 ⟨rfl, hb⟩; have HF2 := Lib.hid (HF.out.to hb); clear hb))
  clear HF
  go_loopw [8] (fun i wr => ∃ (k : Nat) (F : Nat → Prop) (s : LSt) (N : List ByteArray), i = .int .i64 (k : Int) ∧ k ≤ 5 ∧ s.age = 1 ∧ Lg w wr p g F s N (17 + 20 * k)) (fun i _ => 5 - (intOf i).toNat)
  case atStart => exact ⟨0, F, s18, N18, rfl, by omega, rfl, HF2.out⟩
  case round =>
    obtain ⟨k, F, s, N, rfl, hk, hage, hlg⟩ := hrel
    have HLg := Lib.hid hlg
    clear hlg HF2
    by_cases hlt : k < len ∧ k < 5
    · obtain ⟨hl1, hl2⟩ := hlt
      obtain ⟨b, o, hbl, d1, r1, hc1, hc2, hix⟩ := HROW.out.at_ hl1
      generalize ts k = t at *
      obtain ⟨ab, nb, cb, L⟩ := t
      dsimp only at d1 r1 hc1 hc2
      obtain ⟨M, hM⟩ : ∃ M, M = min nb 1500 := ⟨_, rfl⟩
      have hmin : min (nb : Int) 1500 = (M : Int) := by omega
      have hM1 : M ≤ 1500 := by omega
      have hM2 : M ≤ nb := by omega
      have hM3 : M ≤ cb := by omega
      have hk5 : (k : Int) < 5 := by omega
      have hsl := fun W => sliceTo ab nb cb M hM3 hc2 W
      have HROWm := Lib.hid (row_take r1 hM2)
      have HD : Hid (∀ W, Gl wr.drew W → W.cell? ⟨b, o + 1, none⟩ = some (.slice ab nb cb)) := Lib.hid (fun W hW => ((Below.step hW.undrew HLg.out.below HLg.out.below.size).cell (p := ⟨b, o + 1, none⟩) hbl).trans d1)
      clear d1 r1 hM hk
      go_wp2_with fail
      refine wp_region_last_lit [.is (.pointer (some ⟨g, 0, none⟩)), .is (.slice a len cap), .is (.int .i64 (k : Int)), .is (.pointer (some ⟨b, o, none⟩)), .is (.pointer (some ⟨b, o + 1, none⟩)), .is (.slice ab nb cb),
        .is (.slice a len cap), .is (.int .i64 (k : Int)), .is (.pointer (some ⟨b, o, none⟩)), .is (.pointer (some ⟨b, o + 1, none⟩)), .is (.slice ab nb cb), .is (.int .i64 (nb : Int)), .is (.int .i64 (M : Int)), .is (.slice ab M cb)] (by kernel_rfl) (by kernel_rfl) (by kernel_rfl) (by kernel_rfl) ?_
      repeat1' (refine wpInvL_is ?_ ?_; (focus (intro W hW hF K hK; clear hF; have d := HD.out W hW; go_simp; exact hK _ _ (Gl.refl _) rfl)); simp only [Act.put, List.setIfInBounds_toArray, List.set_cons_zero, List.set_cons_succ])
      refine wpInvL_last ?_
      intro W hW hF
      clear hF
      have HLW := Lib.hid (HLg.out.to hW.undrew)
      clear hW hix hsl hmin
      have HAp := Lib.hid (lg_append w W p g (17 + 20 * k) M cb F ab s N (L.take M) HLW.out (HROWm.out.below HLW.out.below) hM3 hc2 (fun h0 x hx => by
        have h1 := row_old HROWm.out h0 x hx
        exact ⟨fun h => by have := HLg.out.new _ h; omega, fun h => by have := HLg.out.newG; omega⟩) (by omega) (by omega) HT.out)
      go_simp
      refine HAp.out.mono ?_
      rintro e w5 ⟨r, s5, F5, N5, rfl, _, ha5, hlg5⟩
      refine ⟨_, rfl, ?_⟩
      have HLg5 := Lib.hid hlg5
      clear hlg5 HAp
      go_wp2_with fail
      go_roundw
      case rel => exact ⟨k + 1, F5, s5, N5, by go_num, by omega, by rw [ha5, hage], HLg5.out⟩
      case measure => simp [intOf]; omega
    · have hlt' : ¬ k < len ∨ (k < len ∧ k = 5) := by omega
      clear hlt
      rcases hlt' with hno | ⟨hno, rfl⟩
      all_goals
        go_wp2_with fail
        go_loopw [9] (fun _ wr => ∃ (F : Nat → Prop) (s : LSt) (N : List ByteArray), s.age = 1 ∧ Lg w wr p g F s N (200 + 100 * s.used)) (fun _ wr => 14 - usedOf wr g)
        case atStart => exact ⟨F, s, N, hage, ⟨HLg.out.log, HLg.out.disk.more (by have := HLg.out.used; omega), HLg.out.notF, HLg.out.new, HLg.out.newG, HLg.out.below, HLg.out.len, HLg.out.at_, HLg.out.head, HLg.out.age, HLg.out.used, HLg.out.num⟩⟩
        case round =>
          obtain ⟨F2, s2, N2, hage2, hlg2⟩ := hrel
          have HL2 := Lib.hid hlg2
          have hu := hlg2.used
          have hat := hlg2.at_
          clear hlg2
          by_cases hfull : s2.used = 14
          · have hroom : roomL s2 = -1 := by
              unfold roomL
              rw [if_pos (by omega)]
            have HR1 := Lib.hid (lg_room HL2.out)
            rw [hroom] at HR1
            have hq := cell_lt (HT.out 0 (by decide))
            clear hroom
            go_wp2_with (first
              | (go_at_call 14; refine HR1.out.mono ?_; clear HR1; rintro e w5 ⟨rfl, hb⟩; have HL5 := Lib.hid (HL2.out.to hb); have HAge := Lib.hid (age_any w5 g p s2 HL5.out.log); rw [hage2] at HAge; clear hb)
              | (go_at_call 13; refine HAge.out.mono ?_; clear HAge; rintro e w6 ⟨rfl, rfl⟩))
            have HA1 := Lib.hid (lg_append w _ p g (200 + 100 * s2.used) 0 0 F2 none s2 N2 [] HL5.out (byteRow_nil _ none) (Nat.le_refl _) (Nat.zero_le _) (fun h0 x hx => by cases hx) (by omega) (by omega) HT.out)
            refine HA1.out.mono ?_
            clear HA1
            rintro e w7 ⟨r, s7, F7, N7, rfl, hcase, ha7, hlg7⟩
            rcases hcase with ⟨_, hh, _⟩ | ⟨rfl, _, hs7⟩
            · omega
            subst hs7
            have HTr := Lib.hid (lg_truncate hlg7 hage2 (by omega) HT.out)
            clear hlg7
            go_wp2_with (go_at_call 12; refine HTr.out.mono ?_; clear HTr; rintro e w8 ⟨rfl, F8, N8, hlg8⟩; have HL8 := Lib.hid hlg8; have HAge := Lib.hid (age_any w8 g p s7.cut hlg8.log); rw [show s7.cut.age = 2 by show s7.age + 1 = 2; rw [hage2]] at HAge; clear hlg8)
            refine HAge.out.mono ?_
            clear HAge
            rintro e w9 ⟨rfl, rfl⟩
            have HA2 := Lib.hid (lg_append w _ p g (200 + 100 * s7.used + 20 + 2) 0 0 F8 none s7.cut N8 [] HL8.out (byteRow_nil _ none) (Nat.le_refl _) (Nat.zero_le _) (fun h0 x hx => by cases hx) (by omega) (by omega) HT.out)
            go_wp2_with (go_at_call 11; refine HA2.out.mono ?_; clear HA2; rintro e w10 ⟨r, s10, F10, N10, rfl, hcase, ha10, hlg10⟩; rcases hcase with ⟨rfl, _, _⟩ | ⟨rfl, hh, _⟩; rotate_left; (exfalso; have hh' : 14 < 2 + (1 + sectorsN 0) := hh; exact absurd hh' (by decide)); have HB10 := Lib.hid hlg10.below; clear hlg10)
            go_ret
            exact ⟨rfl, HB10.out⟩
          · obtain ⟨n, hn⟩ : ∃ n, n = (13 - s2.used) * 511 := ⟨_, rfl⟩
            have hroom : roomL s2 = (n : Int) := by
              unfold roomL
              rw [if_neg (by omega), hn, hat.2]
              congr 2
              omega
            have hn5 : n ≤ 5700 := by omega
            have hsec : sectorsN (n + 1) = 14 - s2.used := by unfold sectorsN; omega
            have hsecm : ∀ m, m ≤ n → sectorsN m ≤ 13 - s2.used := fun m hm => by unfold sectorsN; omega
            obtain ⟨q, hq, hqe⟩ := mod_cut less (n + 1) (by omega) (by omega)
            rw [show ((n + 1 : Nat) : Int) = (n : Int) + 1 by omega] at hqe
            obtain ⟨m, hm⟩ : ∃ m, m = n - q := ⟨_, rfl⟩
            have hmq : (n : Int) - (q : Int) = (m : Int) := by omega
            have hmn : m ≤ n := by omega
            have HSEC := Lib.hid (And.intro hn (And.intro hsec (hsecm m hmn)))
            have HR : Hid (∀ W, Below wr.heap.size wr W → Calls Tryd.prog 14 #[.pointer (some ⟨g, 0, none⟩)] W fun e w' => e = .returned (.int .i64 (n : Int)) ∧ Below W.heap.size W w') := Lib.hid (fun W hb => by
              have h := lg_room (HL2.out.to hb)
              rw [hroom] at h
              exact h)
            have HQ := Lib.hid hqe
            have HROOM := Lib.hid hroom
            have hu64 : IntKind.u64.wrap ((n : Int) + 1) = (n : Int) + 1 := by rw [IntKind.wrap_u64]; omega
            have HU := Lib.hid hu64
            have hmk1 := fun u => make_len (n + 1) (by omega) u
            rw [show ((n + 1 : Nat) : Int) = (n : Int) + 1 by omega] at hmk1
            have hmk2 := fun u => make_len m (by omega) u
            have HMk1 := Lib.hid hmk1
            have HMk2 := Lib.hid hmk2
            have hn0 : (0 : Int) ≤ (n : Int) := by omega
            clear hn hsec hsecm hqe hm hroom hu64 hmk1 hmk2
            have HR1 := Lib.hid (HR.out _ (Below.refl _ _))
            go_wp2_with (go_at_call 14; refine HR1.out.mono ?_; clear HR1; rintro e w5 ⟨rfl, hb⟩; have HB5 := Lib.hid hb; clear hb)
            have HR2 := Lib.hid (HR.out _ HB5.out)
            have hmk1 := HMk1.out
            go_wp2_with (go_at_call 14; refine HR2.out.mono ?_; clear HR2; rintro e w6 ⟨rfl, hb⟩; have HB6 := Lib.hid (Below.step hb HB5.out HB5.out.size); clear hb)
            have h6s := HB6.out.size
            have hBm : Below wr.heap.size wr (w6.alloc (.cells (madeCells #[.int .u8 0] (n + 1)) 5)) := Below.step ((Below.refl _ _).alloc (Nat.le_refl _) _) HB6.out h6s
            have HL6 := Lib.hid (HL2.out.to HB6.out)
            have hl6 := HL6.out.log.lt
            have HAp := Lib.hid (lg_append w _ p g (200 + 100 * s2.used) (n + 1) (n + 1) F2 (some ⟨w6.heap.size, 0, none⟩) s2 N2 (List.replicate (n + 1) 0) (HL2.out.to hBm) (made_row (n + 1) (by unfold maxLen; omega) w6) (Nat.le_refl _) (by unfold maxLen; omega) (fun h0 x hx => by
              obtain rfl := Option.some.inj hx
              exact ⟨fun h => Nat.lt_irrefl _ (HL6.out.disk.lts _ h), fun h => by dsimp only at h; omega⟩) (by omega) (by omega) HT.out)
            clear hmk1 hBm
            refine HAp.out.mono ?_
            clear HAp
            rintro e w7 ⟨r, s7, F7, N7, rfl, hcase, ha7, hlg7⟩
            rcases hcase with ⟨_, hh, _⟩ | ⟨rfl, _, hs7⟩
            · have := HSEC.out
              omega
            subst hs7
            have HL7 := Lib.hid hlg7
            have HR3 : Hid (Calls Tryd.prog 14 #[.pointer (some ⟨g, 0, none⟩)] w7 fun e w' => e = .returned (.int .i64 (n : Int)) ∧ Below w7.heap.size w7 w') := Lib.hid (by
              have h := lg_room HL7.out
              rw [HROOM.out] at h
              exact h)
            have hu64 := HU.out
            clear hlg7
            go_upto_region 13 with (go_at_call 14; refine HR3.out.mono ?_; clear HR3; rintro e w8 ⟨rfl, hb⟩; have HB8 := Lib.hid hb; clear hb)
            rw [HQ.out, hmq, wrap_id (m : Int) (by omega) (by omega)]
            have HL8 := Lib.hid (HL7.out.to HB8.out)
            have hl8 := HL8.out.log.lt
            have hmk2 := HMk2.out
            have HAp := Lib.hid (lg_append w _ p g (200 + 100 * s7.used + 20) m m F7 (some ⟨w8.heap.size, 0, none⟩) s7 N7 (List.replicate m 0) (HL8.out.to ((Below.refl _ _).alloc (Nat.le_refl _) _)) (made_row m (by unfold maxLen; omega) w8) (Nat.le_refl _) (by unfold maxLen; omega) (fun h0 x hx => by
              obtain rfl := Option.some.inj hx
              exact ⟨fun h => Nat.lt_irrefl _ (HL8.out.disk.lts _ h), fun h => by dsimp only at h; omega⟩) (by omega) (by omega) HT.out)
            go_wp2_with (go_at_call 11; refine HAp.out.mono ?_; clear HAp; rintro e w9 ⟨r, s9, F9, N9, rfl, hcase, ha9, hlg9⟩; rcases hcase with ⟨rfl, _, hu9⟩ | ⟨rfl, hh, _⟩; rotate_left; (exfalso; have := HSEC.out; omega); have HL9 := Lib.hid hlg9; have HU9 := Lib.hid hu9; clear hlg9 hu9 hmk2)
            have hr9 : roomL s9 < (n : Int) := by
              have := HSEC.out
              have := HU9.out
              have := HL9.out.at_
              have := HL9.out.used
              unfold roomL
              split <;> omega
            have HR9 := Lib.hid (lg_room HL9.out)
            generalize roomL s9 = r9 at *
            have hr9' : ¬ (n : Int) ≤ r9 := by omega
            have hr9'' : decide ((n : Int) ≤ r9) = false := by simpa using hr9'
            refine HR9.out.mono ?_
            clear HR9
            rintro e w10 ⟨rfl, hb⟩
            have HL10 := Lib.hid (HL9.out.to hb)
            clear hb
            go_wp2_with fail
            go_roundw
            case rel => exact ⟨F9, s9, N9, by rw [ha9, hage2], HL10.out.more (by have := HU9.out; omega)⟩
            case measure =>
              rw [usedOf_log HL10.out.log, usedOf_log HL2.out.log]
              have := HU9.out
              omega
theorem walFull_law {w : World} {H : Type} {enc : TypeId × Value → H} (a : Option Addr) (len cap : Nat) {d : DataW H} {p : List MemPlace} (k : DataW.Trod enc Tryd.prog w 0 (fun _ => true) true 22 (.slice a len cap) d p) (less : Int) (w1 : (Lit.int .i64 less).wf = true) (ht : Tab w) :
    Calls Tryd.prog 7 #[.slice a len cap, .int .i64 less] w fun e w' => e = .returned (.bool true) ∧ Below w.heap.size w w' := by
  obtain ⟨ts, hts⟩ := entries_of k
  exact full_walk a len cap ts less w hts ht
end Go.Proofs.YtpbehgjpajjfkaaDoor
