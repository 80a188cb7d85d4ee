/-
  Texts put together: WalX, WalZ, WpA, WpB.
-/
import Derived.Test.YtpbehgjpajjfkaaDoorMgF
import Derived.Deep.DeepCutAuto
import Derived.Deep.CutBlock
namespace Go.Proofs.YtpbehgjpajjfkaaDoor
open Go.ChangeShapes Go.WideShapes Go.ChangeAt Go.RowKit
set_option linter.unusedVariables false
set_option maxRecDepth 100000

theorem mod_cut (c : Int) (m : Nat) (h : 0 < m) (h7 : m ≤ 7000) : ∃ q : Nat, q < m ∧ wrap64 ((IntKind.u64.wrap c).tmod (m : Int)) = (q : Int) := by
  have h1 : 0 ≤ IntKind.u64.wrap c := (IntKind.wrap_u64 c).symm ▸ (by omega)
  rw [Int.tmod_eq_emod_of_nonneg h1]
  refine ⟨(IntKind.u64.wrap c % (m : Int)).toNat, ?_, ?_⟩
  · have := Int.emod_lt_of_pos (IntKind.u64.wrap c) (show (0 : Int) < m by omega)
    have := Int.emod_nonneg (IntKind.u64.wrap c) (show (m : Int) ≠ 0 by omega)
    omega
  · have := Int.emod_lt_of_pos (IntKind.u64.wrap c) (show (0 : Int) < m by omega)
    have := Int.emod_nonneg (IntKind.u64.wrap c) (show (m : Int) ≠ 0 by omega)
    rw [wrap_id _ (by omega) (by omega)]
    omega
theorem row_take {w : World} {a : Option Addr} {n m : Nat} {l : List Nat} (h : ByteRow w a n l) (hm : m ≤ n) : ByteRow w a m (l.take m) := by
  obtain ⟨h1, h2, h3, h4⟩ := h
  refine ⟨by rw [List.length_take]; omega, by omega, fun c hc => h3 c (List.mem_of_mem_take hc), fun h0 => ?_⟩
  obtain ⟨b, o, e, hc⟩ := h4 (by omega)
  refine ⟨b, o, e, fun i hi => ?_⟩
  rw [hc i (by omega)]
  rw [List.getD_eq_getElem?_getD, List.getD_eq_getElem?_getD, List.getElem?_take, if_pos hi]
/-- where a record of an elder age stands, none of this age does -/
theorem bad_elder {s : LSt} {N : List ByteArray} {B : List Nat} {age n : Nat} (h : s.start N = startL (age : Int) (n : Int) B) (hlt : age < s.age) (ha : s.age < 4611686018427387904) : (Wr.readNum (s.age : Int) (s.age : Int) ((s.start N).drop 1) 0).2.2 ≠ 0 := by
  obtain ⟨R, hR⟩ := startL_drop (age : Int) (n : Int) B
  rw [h, hR, readNum_other _ _ _ (by omega) (by omega) (.inl (by omega))]
  decide
def roundL (k : Nat) : LSt := ⟨2, 14, k % 2, k + 1, 0, 2⟩
/-- what stands on the disk when k rounds are over -/
structure RoundOK (N : List ByteArray) (k K : Nat) : Prop where
  len : N.length = 18
  heads : Heads N (roundL k)
  bad : (Wr.readNum ((k + 1 : Nat) : Int) ((k + 1 : Nat) : Int) ((bytesOf (N.getD 4 ⟨#[]⟩)).drop 1) 0).2.2 ≠ 0
  clear : bytesOf (N.getD (7 + K) ⟨#[]⟩) = bytesOf blank
theorem RoundOK.none {N : List ByteArray} {k K : Nat} (h : RoundOK N k K) : NoRec N (roundL k) := noRec_bad (show 2 < 14 by decide) h.bad
theorem roundOK_zero (K : Nat) (hK : K ≤ 2) : RoundOK N18 0 K := by
  refine ⟨N18_length, fmt_heads _ _ _ (by decide) (by rw [blank18_length]; decide), ?_, ?_⟩
  · exact bad_blank (s := roundL 0) (N := N18) (by decide) (by show bytesOf (N18.getD 4 _) = _; rw [N18_blank _ (by decide) (by decide)])
  · rw [N18_blank _ (by omega) (by omega)]
/-- the sectors behind a round's two records -/
def roundN (N : List ByteArray) (k : Nat) (B : List Nat) : List ByteArray := appN (appN N (roundL k) B) ((roundL k).passed B.length) [k]
theorem roundN_length (N : List ByteArray) (k : Nat) (B : List Nat) : (roundN N k B).length = N.length := by unfold roundN; rw [appN_length, appN_length]
theorem roundN_out (N : List ByteArray) (k : Nat) (B : List Nat) (i : Nat) (d : ByteArray) (h : i < 4 ∨ 7 + sectorsN B.length ≤ i) : (roundN N k B).getD i d = N.getD i d := by
  have e1 : sectorsN ([k] : List Nat).length = 1 := show sectorsN 1 = 1 by decide
  unfold roundN
  rw [appN_out _ _ _ _ _ (by rw [e1]; show i < 2 + (2 + (1 + sectorsN B.length)) ∨ 2 + (2 + (1 + sectorsN B.length)) + (1 + 1) ≤ i; omega), appN_out _ _ _ _ _ (by show i < 2 + 2 ∨ 2 + 2 + (1 + sectorsN B.length) ≤ i; omega)]
theorem RoundOK.recs {N : List ByteArray} {k : Nat} {B : List Nat} (h : RoundOK N k (sectorsN B.length)) (h256 : ∀ c ∈ B, c < 256) (hK : sectorsN B.length ≤ 2) (hk : k < 12) : Recs (roundN N k B) (roundL k) [B, [k]] := by
  have e1 : sectorsN ([k] : List Nat).length = 1 := show sectorsN 1 = 1 by decide
  have e2 : (((roundL k).passed B.length).passed ([k] : List Nat).length).used = 2 + (1 + sectorsN B.length) + (1 + sectorsN ([k] : List Nat).length) := rfl
  rw [e1] at e2
  refine recs_two h256 (fun c hc => by rw [List.mem_singleton.1 hc]; omega) (by rw [e1]; show 2 + (1 + sectorsN B.length) + (1 + 1) ≤ 14; omega) (show 14 ≤ 30000 by decide) (by rw [h.len]; show 2 + 14 ≤ 18; decide) (show k + 1 < 4611686018427387904 by omega) (show 0 + 1 ≤ 65536 by decide) (noRec_bad (by rw [e2]; show _ < 14; omega) (bad_blank (show 1 ≤ k + 1 by omega) ?_))
  show bytesOf ((roundN N k B).getD (2 + (((roundL k).passed B.length).passed ([k] : List Nat).length).used) ⟨#[]⟩) = _
  rw [e2, roundN_out _ _ _ _ _ (by omega), show 2 + (2 + (1 + sectorsN B.length) + (1 + 1)) = 7 + sectorsN B.length by omega]
  exact h.clear
theorem RoundOK.heads2 {N : List ByteArray} {k K : Nat} (h : RoundOK N k K) (B : List Nat) : Heads (roundN N k B) (roundL k) := h.heads.congr ⟨rfl, rfl, rfl⟩ (fun i d hi => roundN_out _ _ _ _ _ (.inl hi))
def cutN (N : List ByteArray) (k : Nat) (B : List Nat) : List ByteArray := (roundN N k B).set (2 + (1 - k % 2)) (bstr (headL ((k + 1 + 1 : Nat) : Int)))
theorem RoundOK.next {N : List ByteArray} {k : Nat} {B : List Nat} (h : RoundOK N k (sectorsN B.length)) (hk : k < 12) : RoundOK (cutN N k B) (k + 1) (sectorsN B.length) := by
  have hl : (roundN N k B).length = 18 := by rw [roundN_length, h.len]
  refine ⟨by unfold cutN; rw [List.length_set, hl], ?_, ?_, ?_⟩
  · have hc := (h.heads2 B).cut (show 2 + 2 ≤ _ by rw [hl]; decide) (show k + 1 + 1 < 4611686018427387904 by omega)
    have e : (roundL k).cut = roundL (k + 1) := by
      show (⟨2, 14, 1 - k % 2, k + 1 + 1, 0, 2⟩ : LSt) = ⟨2, 14, (k + 1) % 2, k + 1 + 1, 0, 2⟩
      rw [show (k + 1) % 2 = 1 - k % 2 by omega]
    rw [e] at hc
    exact hc
  · have e : (roundL (k + 1)).start (cutN N k B) = startL ((k + 1 : Nat) : Int) ((0 : Nat) : Int) B := by
      show bytesOf ((cutN N k B).getD 4 _) = _
      unfold cutN
      rw [getD_set_ne _ _ _ _ _ (by omega)]
      unfold roundN
      rw [appN_out _ _ _ _ _ (.inl (show 4 < 2 + (2 + (1 + sectorsN B.length)) by omega))]
      exact appN_start N (roundL k) B (by rw [h.len]; show 2 + 2 < 18; decide)
    exact bad_elder (s := roundL (k + 1)) (age := k + 1) (n := 0) (B := B) e (Nat.lt_succ_self (k + 1)) (show k + 1 + 1 < 4611686018427387904 by omega)
  · unfold cutN
    rw [getD_set_ne _ _ _ _ _ (by omega), roundN_out _ _ _ _ _ (.inr (Nat.le_refl _))]
    exact h.clear
end Go.Proofs.YtpbehgjpajjfkaaDoor
namespace Go.Proofs.YtpbehgjpajjfkaaDoor
open Go.ChangeShapes Go.WideShapes Go.ChangeAt Go.RowKit
set_option linter.unusedVariables false
set_option maxRecDepth 100000

theorem fits_nil (f c : Int) (w : World) :
    Calls Tryd.prog 38 #[.pointer none, .int .i64 f, .int .i64 c] w fun e w' => e = .returned (.bool false) ∧ w = w' := by
  go_enter Tryd.func38, Tryd.ntmps38
  go_wp2
  go_ret
  exact ⟨rfl, rfl⟩
theorem fits_no (w : World) (F : Nat → Prop) (p m : Nat) (f c : Int) (N : List ByteArray) (h : Qd w F p N m) (hN : N.length ≤ 65536) (hf : (Lit.int .i64 f).wf = true) (hc : (Lit.int .i64 c).wf = true) (hno : f < 0 ∨ c < 3 ∨ (N.length : Int) - c < f) :
    Calls Tryd.prog 38 #[.pointer (some ⟨p, 0, none⟩), .int .i64 f, .int .i64 c] w fun e w' => e = .returned (.bool false) ∧ w = w' := by
  have H := Lib.hid (fun W (hW : w = W) => by subst hW; exact count_any w F p m N h)
  have hN2 : (N.length : Int) ≤ 65536 := by omega
  have hN0 : 0 ≤ (N.length : Int) := by omega
  have hc2 : c ≤ 9223372036854775807 ∧ -9223372036854775808 ≤ c := by
    simpa [Lit.wf, IntKind.min, IntKind.max, IntKind.signed, IntKind.bits, and_comm] using hc
  have hf2 : f ≤ 9223372036854775807 ∧ -9223372036854775808 ≤ f := by
    simpa [Lit.wf, IntKind.min, IntKind.max, IntKind.signed, IntKind.bits, and_comm] using hf
  obtain ⟨hc3, hc4⟩ := hc2
  clear h hf hc
  generalize (N.length : Int) = n at *
  by_cases h1 : f < 0
  · have h1' : ¬ 0 ≤ f := by omega
    have h1'' : decide (0 ≤ f) = false := by simpa using h1
    go_enter Tryd.func38, Tryd.ntmps38
    go_wp2
    go_ret
    exact ⟨rfl, rfl⟩
  · have h1' : 0 ≤ f := by omega
    by_cases h2 : c < 3
    · have h2' : ¬ 2 < c := by omega
      have h2'' : decide (2 < c) = false := by simp; omega
      clear hno
      go_enter Tryd.func38, Tryd.ntmps38
      go_wp2
      go_ret
      exact ⟨rfl, rfl⟩
    · have h2' : 2 < c := by omega
      have h3 : ¬ f ≤ n - c := by omega
      have h3'' : decide (f ≤ n - c) = false := by simpa using h3
      clear hno
      go_enter Tryd.func38, Tryd.ntmps38
      go_wp2_with (go_at_call 63; refine (H.out _ rfl).mono ?_; rintro e w1 ⟨rfl, rfl⟩)
      go_ret
      exact ⟨rfl, rfl⟩
theorem format_no (w : World) (d : Option Addr) (f c : Int) (hf : Calls Tryd.prog 38 #[.pointer d, .int .i64 f, .int .i64 c] w fun e w' => e = .returned (.bool false) ∧ w = w') :
    Calls Tryd.prog 27 #[.pointer d, .int .i64 f, .int .i64 c] w fun e w' => e = .returned (.int .i64 1) ∧ w = w' := by
  have H := Lib.hid hf
  clear hf
  go_enter Tryd.func27, Tryd.ntmps27
  go_wp2_with (go_at_call 38; refine H.out.mono ?_; rintro e w1 ⟨rfl, rfl⟩)
  go_ret
  exact ⟨rfl, rfl⟩
theorem open_no (w : World) (d : Option Addr) (f c : Int) (hf : Calls Tryd.prog 38 #[.pointer d, .int .i64 f, .int .i64 c] w fun e w' => e = .returned (.bool false) ∧ w = w') :
    Calls Tryd.prog 17 #[.pointer d, .int .i64 f, .int .i64 c] w fun e w' => e = .returned (.tuple #[.pointer none, .slice none 0 0, .int .i64 1]) ∧ w = w' := by
  have H := Lib.hid hf
  clear hf
  go_enter Tryd.func17, Tryd.ntmps17
  go_wp2_with (go_at_call 38; refine H.out.mono ?_; rintro e w1 ⟨rfl, rfl⟩)
  go_ret3
  exact ⟨rfl, rfl⟩
set_option maxHeartbeats 1000000 in
theorem append_full (w : World) (g p n cap : Nat) (a : Option Addr) (s : LSt) (hl : LogAt w g p s) (hn : n ≤ 16777216) (hu : s.used ≤ s.c) (hc : s.c ≤ 30000) (hfull : roomL s < (n : Int)) :
    Calls Tryd.prog 11 #[.pointer (some ⟨g, 0, none⟩), .slice a n cap] w fun e w' => e = .returned (.int .i64 7) ∧ Below w.heap.size w w' := by
  have HB1 : Hid (Below w.heap.size w (w.alloc (.cells #[.pointer (some ⟨g, 0, none⟩)] 25))) := Lib.hid ((Below.refl _ _).alloc (Nat.le_refl _) _)
  have HR := Lib.hid (room_any _ g p s (hl.below HB1.out) hu hc)
  have hR3i : (n : Int) ≤ 16777216 := by omega
  generalize roomL s = r at *
  clear hl
  go_enter Tryd.func11, Tryd.ntmps11
  go_wp2_with (go_at_call 14; refine HR.out.mono ?_; rintro e w1 ⟨rfl, k, rfl⟩)
  go_ret
  exact ⟨rfl, Below.step (below_dN _ k) HB1.out HB1.out.size⟩
end Go.Proofs.YtpbehgjpajjfkaaDoor
namespace Go.Proofs.YtpbehgjpajjfkaaDoor
open Go.ChangeShapes Go.WideShapes Go.ChangeAt Go.RowKit
set_option linter.unusedVariables false
set_option maxRecDepth 100000

def nines : List Nat := List.replicate 512 153
def nine : ByteArray := bstr nines
/-- a sector whose first k bytes are filled -/
def fillC (k : Nat) : Array Value := (List.replicate k (Value.int .u8 153) ++ List.replicate (512 - k) (Value.int .u8 0)).toArray
theorem fillC_zero : fillC 0 = madeCells #[.int .u8 0] 512 := by
  have h : madeCells #[.int .u8 0] 512 = (vals zero512).toArray := noughts_vals
  rw [h]
  unfold fillC zero512
  show _ = (List.map _ (List.replicate 512 0)).toArray
  rw [List.map_replicate]
  rfl
theorem fillC_step (k : Nat) (hk : k < 512) : (fillC k).setIfInBounds k (.int .u8 153) = fillC (k + 1) := by
  unfold fillC
  rw [List.setIfInBounds_toArray]
  congr 1
  have e : 512 - k = (512 - (k + 1)) + 1 := by omega
  rw [e, List.replicate_succ, List.replicate_succ' (n := k), List.append_assoc]
  rw [List.set_append_right _ _ (by rw [List.length_replicate]; exact Nat.le_refl _), List.length_replicate, Nat.sub_self]
  rfl
theorem fillC_row {w : World} {X : Nat} (h : w.heap[X]? = some (.cells (fillC 512) 5)) : ByteRow w (some ⟨X, 0, none⟩) 512 nines := by
  refine ⟨List.length_replicate, by decide, fun c hc => by rw [List.eq_of_mem_replicate hc]; decide, fun _ => ⟨X, 0, rfl, fun i hi => ?_⟩⟩
  simp only [World.cell?, h]
  have e : fillC 512 = (List.replicate 512 (Value.int .u8 153)).toArray := by
    unfold fillC
    rw [Nat.sub_self]
    rfl
  rw [e]
  show (List.replicate 512 (Value.int .u8 153)).toArray[0 + i]? = _
  rw [Nat.zero_add, List.getElem?_toArray, List.getElem?_replicate, if_pos hi]
  have : nines.getD i 0 = 153 := by
    unfold nines
    rw [List.getD_eq_getElem?_getD, List.getElem?_replicate, if_pos hi]
    rfl
  rw [this]
  rfl
def wK : Nat → List ByteArray
  | 0 => List.replicate 20 blank
  | k + 1 => (wK k).set k nine
theorem wK_length (k : Nat) : (wK k).length = 20 := by
  induction k with
  | zero => exact List.length_replicate
  | succ k ih => show ((wK k).set _ _).length = _; rw [List.length_set, ih]
theorem wK_get (k i : Nat) (hi : i < k) (hk : k ≤ 20) (d : ByteArray) : (wK k).getD i d = nine := by
  induction k with
  | zero => omega
  | succ k ih =>
    show ((wK k).set k nine).getD i d = _
    by_cases e : i = k
    · subst e
      rw [getD_set_eq _ _ _ _ (by rw [wK_length]; omega)]
    · rw [getD_set_ne _ _ _ _ _ (fun g => e g.symm), ih (by omega) (by omega)]
/-- a record of up to 5000 bytes is taken, or there is no room for it -/
structure Taken (w w' : World) (F : Nat → Prop) (g p m : Nat) (s : LSt) (N : List ByteArray) (s' : LSt) (F' : Nat → Prop) (N' : List ByteArray) : Prop where
  log : LogAt w' g p s'
  disk : Qd w' F' p N' (m + 33)
  sub : ∀ k, F' k → Gr F w w' k ∧ k ≠ g
  only : Only (fun k => F k ∨ k = g) w w'
  same : s'.f = s.f ∧ s'.c = s.c ∧ s'.head = s.head ∧ s'.age = s.age
  len : N'.length = N.length
  out : ∀ i d, i < s.f + s.used ∨ s.f + s.c ≤ i → N'.getD i d = N.getD i d
theorem append_taken (w : World) (F : Nat → Prop) (g p m n cap : Nat) (a : Option Addr) (s : LSt) (N : List ByteArray) (B : List Nat) (h : Qd w F p N m) (hl : LogAt w g p s) (hg : ¬ F g) (hB : ByteRow w a n B) (hnc : n ≤ cap) (hcm : cap ≤ maxLen) (ha : 0 < n → ∀ x, a = some x → ¬ F x.block ∧ x.block ≠ g)
    (hu : s.used ≤ s.c) (hc : s.c ≤ 30) (hf : s.f + s.c ≤ N.length) (hN : N.length ≤ 65536) (hage : s.age < 4611686018427387904) (hnum : s.number ≤ 65536) (hn : n ≤ 16777216) (hm : m + 50 < 900000) (ht : Cr.Tab w) (hF : ¬ F 0) :
    Calls Tryd.prog 11 #[.pointer (some ⟨g, 0, none⟩), .slice a n cap] w fun e w' => ∃ r s' F' N', e = .returned (.int .i64 r) ∧ (r = 0 ∨ r = 7) ∧ Taken w w' F g p m s N s' F' N' := by
  by_cases hroom : s.used + (1 + sectorsN n) ≤ s.c
  · refine (append_ok w F g p m n cap a s N B h hl hg hB hnc hcm ha hroom (by omega) hf hN hage hnum (by omega) ht hF).mono ?_
    rintro e w' ⟨rfl, hl', ⟨F', hq', hs'⟩, ho⟩
    have hBl : B.length = n := hB.1
    exact ⟨0, _, F', _, rfl, .inl rfl, hl', hq'.more (by omega), hs', ho, ⟨rfl, rfl, rfl, rfl⟩, appN_length _ _ _, fun i d hi => appN_out _ _ _ _ _ (by rw [hBl]; omega)⟩
  · have hfull : roomL s < (n : Int) := by
      unfold roomL
      unfold sectorsN at hroom
      split
      · omega
      · omega
    refine (append_full w g p n cap a s hl hn hu (by omega) hfull).mono ?_
    rintro e w' ⟨rfl, hb⟩
    refine ⟨7, s, F, N, rfl, .inr rfl, hl.below hb, (h.below hb).more (by omega), fun k hk => ⟨.inl hk, fun e => hg (e ▸ hk)⟩, Only.of_below hb, ⟨rfl, rfl, rfl, rfl⟩, rfl, fun i d _ => rfl⟩
end Go.Proofs.YtpbehgjpajjfkaaDoor
namespace Go.Proofs.YtpbehgjpajjfkaaDoor
open Go.ChangeShapes Go.WideShapes Go.ChangeAt Go.RowKit
set_option linter.unusedVariables false
set_option maxRecDepth 100000

abbrev IsRow := Cr.IsRow
abbrev Tab := Cr.Tab
theorem sliceTo (a : Option Addr) (len cap m : Nat) (h1 : m ≤ cap) (hc : cap ≤ maxLen) (w : World) : (Instr.slice 34 (.slice a len cap) none (some (.int .i64 (m : Int))) none).run Tryd.prog w = .ok (.slice a m cap) w := by
  rw [run_slice_h w 34 a len cap (by kernel_rfl) .i64 (m : Int) (by omega) (by omega)]
  go_simp
theorem row_old {w : World} {a : Option Addr} {n : Nat} {l : List Nat} (h : ByteRow w a n l) (h0 : 0 < n) : ∀ x, a = some x → x.block < w.heap.size := by
  intro x hx
  obtain ⟨b, o, e, hc⟩ := h.2.2.2 h0
  rw [hx] at e
  obtain rfl := Option.some.inj e
  have := cell_lt (hc 0 h0)
  exact this
/-- where a log can be -/
def Fits (f c : Int) : Prop := 0 ≤ f ∧ 3 ≤ c ∧ f ≤ 20 - c
set_option maxHeartbeats 4000000 in
theorem places_walk (f c : Int) (wf : (Lit.int .i64 f).wf = true) (wc : (Lit.int .i64 c).wf = true) (a : Option Addr) (len cap : Nat) (L : List Nat) (w : World) (hrow : ByteRow w a len L) (hlc : len ≤ cap) (hcm : cap ≤ maxLen) (ht : Cr.Tab w) :
    Calls Tryd.prog 6 #[.int .i64 f, .int .i64 c, .slice a len cap] w fun e w' => e = .returned (.bool true) ∧ Below w.heap.size w w' := by
  have hmk := make512
  have HNew := Lib.hid (qnew 20 w (by decide) (by decide))
  have HT := Lib.hid ht
  have HROW := Lib.hid hrow
  have hq : 0 < w.heap.size := cell_lt (ht 0 (by decide))
  clear ht hrow
  go_enter Tryd.func6, Tryd.ntmps6
  go_wp2_with (go_at_call 26; refine HNew.out.mono ?_; clear HNew; rintro e w1 ⟨p, rfl, hq1, hb1⟩; have HQ1 := Lib.hid hq1; have HB1 := Lib.hid hb1; clear hq1 hb1)
  obtain ⟨w2, hw2⟩ : ∃ w2, w2 = w1.alloc (.cells noughts 5) := ⟨_, rfl⟩
  rw [← hw2]
  have HX : Hid (w2.heap[w1.heap.size]? = some (.cells (fillC 0) 5)) := Lib.hid (by
    rw [hw2, fillC_zero]
    exact World.alloc_heap_new w1 _)
  have HB2 : Hid (Below w1.heap.size w1 w2) := Lib.hid (by rw [hw2]; exact (Below.refl _ _).alloc (Nat.le_refl _) _)
  clear hw2 hmk
  go_loopw [10] (fun i wr => ∃ k : Nat, i = .int .i64 (k : Int) ∧ k ≤ 512 ∧ wr.heap[w1.heap.size]? = some (.cells (fillC k) 5) ∧ Below w1.heap.size w1 wr) (fun i _ => 512 - (intOf i).toNat)
  case atStart => exact ⟨0, rfl, by omega, HX.out, HB2.out⟩
  case round =>
    obtain ⟨k, rfl, hk, hX, hbel⟩ := hrel
    have HXr := Lib.hid hX
    have HBr := Lib.hid hbel
    by_cases hlt : k < 512
    · have d : wr.cell? ⟨w1.heap.size, k, none⟩ = some (.int .u8 0) := by
        simp only [World.cell?, hX]
        show (fillC k)[k]? = _
        unfold fillC
        rw [List.getElem?_toArray, List.getElem?_append_right (by rw [List.length_replicate]; exact Nat.le_refl _), List.length_replicate, Nat.sub_self, List.getElem?_replicate, if_pos (by omega)]
      have fz : wr.frozen? ⟨w1.heap.size, k, none⟩ = false := by simp [World.frozen?, hX]
      clear hX hbel
      go_wp2_with fail
      go_roundw
      case rel => exact ⟨k + 1, by go_num, by omega, by rw [set_put wr w1.heap.size k _ HXr.out, fillC_step k hlt], HBr.out.setCell (p := ⟨w1.heap.size, k, none⟩) (Nat.le_refl _) _⟩
      case measure => simp [intOf]; omega
    · obtain rfl : k = 512 := by omega
      clear hX hbel hk hlt
      have HLg := Lib.hid (logs_any wr (Cr.Tab.below HT.out (Below.step HBr.out HB1.out HB1.out.size)))
      go_wp2_with (first
        | (go_at_call 9; refine HLg.out.mono ?_; clear HLg; rintro e w3 ⟨rfl, hb3⟩; have HX3 := Lib.hid (fillC_row ((hb3.block _ (heap_lt HXr.out)).trans HXr.out)); have HB3 := Lib.hid (Below.step hb3 HBr.out HBr.out.size); clear hb3)
        | (go_at_call 27; refine (format_no _ none 0 5 (fits_nil 0 5 _)).mono ?_; rintro e w4 ⟨rfl, rfl⟩))
      have hX3 : w1.heap.size < w3.heap.size := by have := heap_lt HXr.out; have := HB3.out.size; exact row_block HX3.out (by decide)
      have HQ3 := Lib.hid (HQ1.out.below HB3.out)
      have hb1s := HB1.out.size
      clear HXr HBr HQ1
      go_loopw [11] (fun i wr => ∃ (k : Nat) (F : Nat → Prop), i = .int .i64 (k : Int) ∧ k ≤ 20 ∧ Qd wr F p (wK k) k ∧ (∀ j, F j → w.heap.size ≤ j ∧ j ≠ w1.heap.size) ∧ ByteRow wr (some ⟨w1.heap.size, 0, none⟩) 512 nines ∧ Below w.heap.size w wr) (fun i _ => 20 - (intOf i).toNat)
      case atStart => exact ⟨0, _, rfl, by omega, HQ3.out, fun j hj => by
        rcases hj with hj | hj
        · exact hj.elim
        · exact ⟨hj.1, by omega⟩, HX3.out, Below.step HB3.out HB1.out hb1s⟩
      case round =>
        obtain ⟨k, F, rfl, hk, hqd, hFn, hxr, hbel⟩ := hrel
        have HQr := Lib.hid hqd
        have HFn := Lib.hid hFn
        have HXr := Lib.hid hxr
        have HBr := Lib.hid hbel
        have hXl : w1.heap.size < wr.heap.size := row_block hxr (by decide)
        clear hqd hFn hxr hbel HX3 HQ3 HB3
        by_cases hlt : k < 20
        · have hW := Lib.hid (qwrite wr F p k k (wK k) (some ⟨w1.heap.size, 0, none⟩) 512 nines HQr.out (by omega) (by rw [wK_length]; exact hlt) HXr.out (fun x hx => by
            obtain rfl := Option.some.inj hx
            exact fun h => (HFn.out _ h).2 rfl))
          go_wp2_with (go_at_call 28; refine hW.out.mono ?_; clear hW; rintro e w5 ⟨rfl, hq5, ho5⟩; have HQ5 := Lib.hid hq5; have HO5 := Lib.hid ho5; clear hq5 ho5)
          have hbr := HBr.out.size
          go_roundw
          case rel => exact ⟨k + 1, _, by go_num, by omega, HQ5.out, fun j hj => by
            rcases hj with hj | hj
            · exact HFn.out j hj
            · exact ⟨by omega, by omega⟩, HXr.out.only HO5.out (fun x hx => by
              obtain rfl := Option.some.inj hx
              exact fun h => (HFn.out _ h).2 rfl), HBr.out.trans (HO5.out.below hbr (fun j hj => (HFn.out j hj).1))⟩
          case measure => simp [intOf]; omega
        · obtain rfl : k = 20 := by omega
          clear hk hlt
          have hbr := HBr.out.size
          by_cases hfit : Fits f c
          · obtain ⟨f1, f2, f3⟩ := hfit
            obtain ⟨f', rfl⟩ : ∃ n : Nat, f = n := ⟨f.toNat, by omega⟩
            obtain ⟨c', rfl⟩ : ∃ n : Nat, c = n := ⟨c.toNat, by omega⟩
            have g3 : 3 ≤ c' := by omega
            have gfc : f' + c' ≤ 20 := by omega
            have hFq : ¬ F 0 := fun h => by have := (HFn.out _ h).1; omega
            have HFo := Lib.hid (format_any wr F p 20 f' c' (wK 20) HQr.out g3 (by rw [wK_length]; exact gfc) (by rw [wK_length]; decide) (by omega) (Cr.Tab.below HT.out HBr.out) hFq)
            go_wp2_with (go_at_call 27; refine HFo.out.mono ?_; clear HFo; rintro e w5 ⟨rfl, ⟨F5, hq5, hs5⟩, ho5⟩; have HQ5 := Lib.hid hq5; have HS5 := Lib.hid hs5; have HO5 := Lib.hid ho5; clear hq5 hs5 ho5)
            have HB5 : Hid (Below w.heap.size w w5) := Lib.hid (HBr.out.trans (HO5.out.below hbr (fun j hj => (HFn.out j hj).1)))
            have hn5 : ∀ j, F5 j → w.heap.size ≤ j ∧ j ≠ w1.heap.size := fun j hj => by
              rcases HS5.out j hj with h | h
              · exact HFn.out j h
              · exact ⟨by omega, by omega⟩
            have HX5 := Lib.hid (HXr.out.only HO5.out (fun x hx => by
              obtain rfl := Option.some.inj hx
              exact fun h => (HFn.out _ h).2 rfl))
            have hlen5 : (fmtN (wK 20) f' c').length = 20 := by rw [fmtN_length, wK_length]
            have HOp : Hid (Calls Tryd.prog 17 #[.pointer (some ⟨p, 0, none⟩), .int .i64 (f' : Int), .int .i64 (c' : Int)] w5 fun e w' => ∃ v, e = .returned (.tuple #[.pointer (some ⟨w5.heap.size, 0, none⟩), v, .int .i64 0]) ∧ LogAt w' w5.heap.size p (freshL f' c') ∧ RowsOf w' w5.heap.size v [] ∧ Below w5.heap.size w5 w') := Lib.hid (open_heads w5 F5 p _ (freshL f' c') (fmtN (wK 20) f' c') [] HQ5.out (fmt_heads _ _ _ g3 (by rw [wK_length]; exact gfc)) g3 (show c' ≤ 30000 by omega) (by rw [hlen5]; exact gfc) (by rw [hlen5]; decide) (Cr.Tab.below HT.out HB5.out) (fmt_norec _ _ _ g3 (by rw [wK_length]; exact gfc)))
            obtain ⟨m, hm⟩ : ∃ m, m = min len 5000 := ⟨_, rfl⟩
            have hmin : min (len : Int) 5000 = (m : Int) := by omega
            have hm5 : m ≤ 5000 := by omega
            have hmc : m ≤ cap := by omega
            have hml : m ≤ len := by omega
            have hsl := fun W => sliceTo a len cap m hmc hcm W
            clear hm
            go_wp2_with (go_at_call 17; refine HOp.out.mono ?_; clear HOp; rintro e w6 ⟨v, rfl, hl6, hr6, hb6⟩; have HL6 := Lib.hid hl6; have HB6 := Lib.hid hb6; obtain ⟨_, _, _, hv⟩ := hr6; obtain rfl := hv rfl; clear hl6 hb6 hv)
            have hg6 : ¬ F5 w5.heap.size := fun h => Nat.lt_irrefl _ (HQ5.out.lts _ h)
            have hB5s := HB5.out.size
            have HB6' := Lib.hid (Below.step HB6.out HB5.out hB5s)
            have HROWm := Lib.hid (row_take HROW.out hml)
            have hFq5 : ¬ F5 0 := fun h => by have := (hn5 _ h).1; omega
            have HAp := Lib.hid (append_taken w6 F5 w5.heap.size p (20 + c' + 3) m cap a (freshL f' c') (fmtN (wK 20) f' c') (L.take m) (HQ5.out.below HB6.out) HL6.out hg6 (HROWm.out.below HB6'.out) hmc hcm (fun h0 x hx => by
              have := row_old HROWm.out h0 x hx
              exact ⟨fun h => by have := (hn5 _ h).1; omega, fun h => by omega⟩) (show 2 ≤ c' by omega) (show c' ≤ 30 by omega) (by rw [hlen5]; exact gfc) (by rw [hlen5]; decide) (show 1 < 4611686018427387904 by decide) (show 0 ≤ 65536 by decide) (by omega) (by omega) (Cr.Tab.below HT.out HB6'.out) hFq5)
            refine HAp.out.mono ?_
            clear HAp
            rintro e w7 ⟨r, s', F7, N7, rfl, hr, htk⟩
            have HTk := Lib.hid htk
            have h6s := HB6.out.size
            have hn7 : ∀ j, F7 j → w.heap.size ≤ j ∧ j ≠ w1.heap.size := fun j hj => by
              have hX5l : w1.heap.size < w5.heap.size := row_block HX5.out (by decide)
              rcases (htk.sub j hj).1 with h | h
              · exact hn5 j h
              · exact ⟨by omega, by omega⟩
            have hon7 : ∀ j, (F5 j ∨ j = w5.heap.size) → w.heap.size ≤ j := fun j hj => by
              rcases hj with h | h
              · exact (hn5 j h).1
              · omega
            have HB7 : Hid (Below w.heap.size w w7) := Lib.hid (HB6'.out.trans (htk.only.below (Nat.le_trans hB5s h6s) hon7))
            have hX5l : w1.heap.size < w5.heap.size := row_block HX5.out (by decide)
            have HX7 := Lib.hid ((HX5.out.below HB6.out).only htk.only (fun x hx => by
              obtain rfl := Option.some.inj hx
              rintro (h | h)
              · exact (hn5 _ h).2 rfl
              · dsimp only at h; omega))
            obtain ⟨e1, e2, e3, e4⟩ := htk.same
            have hl7 : N7.length = 20 := htk.len.trans hlen5
            have HTr := Lib.hid (truncate_any w7 F7 w5.heap.size p (20 + c' + 3 + 33) s' N7 htk.disk htk.log (fun h => (htk.sub _ h).2 rfl) (by rw [e3]; exact Nat.zero_le _) (by rw [e1, hl7]; show f' + 2 ≤ 20; omega) (by rw [hl7]; decide) (by rw [e4]; show 1 < 4611686018427387904; decide) (by omega) (Cr.Tab.below HT.out HB7.out) (fun h => by have := (hn7 _ h).1; omega))
            clear htk
            rcases hr with rfl | rfl
            all_goals
              go_wp2_with (go_at_call 12; refine HTr.out.mono ?_; clear HTr; rintro e w8 ⟨rfl, hl8, ⟨F8, hq8, hs8⟩, ho8⟩; have HQ8 := Lib.hid hq8; have HO8 := Lib.hid ho8; clear hl8 hq8 hs8 ho8)
              obtain ⟨N8, hN8⟩ : ∃ N8, N8 = N7.set (s'.f + (1 - s'.head)) (bstr (headL ((s'.age + 1 : Nat) : Int))) := ⟨_, rfl⟩
              rw [← hN8] at HQ8
              have hl8 : N8.length = 20 := by rw [hN8, List.length_set, hl7]
              have hOut : ∀ i, i < 20 → (i < f' ∨ f' + c' ≤ i) → bytesOf (N8.getD i ⟨#[]⟩) = nines := fun i hi ho => by
                rw [hN8, e1, e3]
                show bytesOf ((N7.set (f' + (1 - 0)) _).getD i _) = _
                rw [getD_set_ne _ _ _ _ _ (by omega), HTk.out.out i _ (by show i < f' + 2 ∨ f' + c' ≤ i; omega), fmtN_out _ _ _ _ _ (by omega) ho, wK_get 20 i hi (Nat.le_refl _)]
                exact bytesOf_bstr _ (fun c hc => by rw [List.eq_of_mem_replicate hc]; decide)
              have HOut := Lib.hid hOut
              have h7s := HB7.out.size
              have HB8 : Hid (Below w.heap.size w w8) := Lib.hid (HB7.out.trans (HO8.out.below h7s (fun j hj => by
                rcases hj with h | h
                · exact (hn7 j h).1
                · omega)))
              have HX8 := Lib.hid (HX7.out.only HO8.out (fun x hx => by
                obtain rfl := Option.some.inj hx
                rintro (h | h)
                · exact (hn7 _ h).2 rfl
                · dsimp only at h; omega))
              have hN8l := hl8
              clear hN8 hOut HO8 hmin hsl
              go_loopw [16] (fun i wr => ∃ k : Nat, i = .int .i64 (k : Int) ∧ k ≤ 20 ∧ Below w8.heap.size w8 wr) (fun i _ => 20 - (intOf i).toNat)
              case atStart => exact ⟨0, rfl, by omega, Below.refl _ _⟩
              case round =>
                obtain ⟨k, rfl, hk, hb⟩ := hrel
                have HBk := Lib.hid hb
                clear hb
                by_cases hlt : k < 20
                · have HRd := qread _ F8 p _ k N8 (HQ8.out.below HBk.out) (by rw [hN8l]; exact hlt)
                  have hcx := conv_row 512 (HX8.out.below HBk.out)
                  by_cases hin : f' ≤ k ∧ k < f' + c'
                  · have t1 : ¬ (k : Int) < (f' : Int) := by omega
                    have t1' : decide ((k : Int) < (f' : Int)) = false := by simpa using t1
                    have t2 : ¬ (f' : Int) + (c' : Int) ≤ (k : Int) := by omega
                    have t2' : decide ((f' : Int) + (c' : Int) ≤ (k : Int)) = false := by simpa using t2
                    have HRd := Lib.hid HRd
                    have hfc20 : (f' : Int) + (c' : Int) ≤ 20 := by omega
                    clear hin hcx
                    go_wp2_with (go_at_call 29; refine HRd.out.mono ?_; clear HRd; rintro e w9 ⟨gr, cr, rfl, hR9, _, hb9, _⟩; have HB9 := Lib.hid (Below.step hb9 HBk.out HBk.out.size); clear hR9 hb9)
                    go_roundw
                    case rel => exact ⟨k + 1, by go_num, by omega, HB9.out⟩
                    case measure => simp [intOf]; omega
                  · rw [HOut.out k hlt (by omega)] at HRd
                    have HRd := Lib.hid HRd
                    have hfc20 : (f' : Int) + (c' : Int) ≤ 20 := by omega
                    have HXk := Lib.hid (HX8.out.below HBk.out)
                    clear hcx
                    by_cases hlo : k < f'
                    · have t1 : (k : Int) < (f' : Int) := by omega
                      have t1' : decide ((k : Int) < (f' : Int)) = true := by simpa using t1
                      clear hin
                      go_wp2_with (go_at_call 29; refine HRd.out.mono ?_; clear HRd; rintro e w9 ⟨gr, cr, rfl, hR9, _, hb9, _⟩; have hc9 := conv_row cr hR9; have hcx := conv_row 512 (HXk.out.below hb9); have HB9 := Lib.hid (Below.step hb9 HBk.out HBk.out.size); clear hR9 hb9)
                      clear hc9 hcx
                      go_roundw
                      case rel => exact ⟨k + 1, by go_num, by omega, HB9.out⟩
                      case measure => simp [intOf]; omega
                    · have t1 : ¬ (k : Int) < (f' : Int) := by omega
                      have t1' : decide ((k : Int) < (f' : Int)) = false := by simpa using t1
                      have t2 : (f' : Int) + (c' : Int) ≤ (k : Int) := by omega
                      have t2' : decide ((f' : Int) + (c' : Int) ≤ (k : Int)) = true := by simpa using t2
                      clear hin
                      go_wp2_with (go_at_call 29; refine HRd.out.mono ?_; clear HRd; rintro e w9 ⟨gr, cr, rfl, hR9, _, hb9, _⟩; have hc9 := conv_row cr hR9; have hcx := conv_row 512 (HXk.out.below hb9); have HB9 := Lib.hid (Below.step hb9 HBk.out HBk.out.size); clear hR9 hb9)
                      clear hc9 hcx
                      go_roundw
                      case rel => exact ⟨k + 1, by go_num, by omega, HB9.out⟩
                      case measure => simp [intOf]; omega
                · obtain rfl : k = 20 := by omega
                  go_wp2_with fail
                  go_ret
                  exact ⟨rfl, Below.step HBk.out HB8.out HB8.out.size⟩
          · have hno : f < 0 ∨ c < 3 ∨ ((wK 20).length : Int) - c < f := by
              rw [wK_length]
              unfold Fits at hfit
              omega
            have hFt := fits_no wr F p 20 f c (wK 20) HQr.out (by rw [wK_length]; decide) wf wc hno
            have HFo := Lib.hid (format_no wr (some ⟨p, 0, none⟩) f c hFt)
            have HOp := Lib.hid (open_no wr (some ⟨p, 0, none⟩) f c hFt)
            clear hFt hno
            have hc2 : c ≤ 9223372036854775807 ∧ -9223372036854775808 ≤ c := by
              simpa [Lit.wf, IntKind.min, IntKind.max, IntKind.signed, IntKind.bits, and_comm] using wc
            obtain ⟨hc3, hc4⟩ := hc2
            by_cases h1 : f < 0
            · have h1' : decide (f < 0) = true := by simpa using h1
              clear hfit
              go_wp2_with (first
                | (go_at_call 27; refine HFo.out.mono ?_; clear HFo; rintro e w5 ⟨rfl, rfl⟩)
                | (go_at_call 17; refine HOp.out.mono ?_; clear HOp; rintro e w6 ⟨rfl, rfl⟩))
              go_ret
              exact ⟨rfl, HBr.out⟩
            · have h1' : decide (f < 0) = false := by simpa using h1
              by_cases h2 : c < 3
              · have h2' : decide (c < 3) = true := by simpa using h2
                clear hfit
                go_wp2_with (first
                  | (go_at_call 27; refine HFo.out.mono ?_; clear HFo; rintro e w5 ⟨rfl, rfl⟩)
                  | (go_at_call 17; refine HOp.out.mono ?_; clear HOp; rintro e w6 ⟨rfl, rfl⟩))
                go_ret
                exact ⟨rfl, HBr.out⟩
              · have h2' : decide (c < 3) = false := by simpa using h2
                by_cases h3 : 20 < c
                · have h3' : decide (20 < c) = true := by simpa using h3
                  clear hfit
                  go_wp2_with (first
                    | (go_at_call 27; refine HFo.out.mono ?_; clear HFo; rintro e w5 ⟨rfl, rfl⟩)
                    | (go_at_call 17; refine HOp.out.mono ?_; clear HOp; rintro e w6 ⟨rfl, rfl⟩))
                  go_ret
                  exact ⟨rfl, HBr.out⟩
                · have h3' : decide (20 < c) = false := by simpa using h3
                  have h4 : 20 - c < f := by unfold Fits at hfit; omega
                  have h4' : decide (20 - c < f) = true := by simpa using h4
                  have h5 : wrap64 (20 - c) = 20 - c := wrap_id _ (by omega) (by omega)
                  clear hfit
                  go_wp2_with (first
                    | (go_at_call 27; refine HFo.out.mono ?_; clear HFo; rintro e w5 ⟨rfl, rfl⟩)
                    | (go_at_call 17; refine HOp.out.mono ?_; clear HOp; rintro e w6 ⟨rfl, rfl⟩))
                  go_ret
                  exact ⟨rfl, HBr.out⟩
theorem walPlaces_law {w : World} (f : Int) (w0 : (Lit.int .i64 f).wf = true) (c : Int) (w1 : (Lit.int .i64 c).wf = true) (a : Option Addr) (len cap : Nat) (zs : List Int) (w2 : IsRow .u8 w a len cap zs) (ht : Tab w) :
    Calls Tryd.prog 6 #[.int .i64 f, .int .i64 c, .slice a len cap] w fun e w' => e = .returned (.bool true) ∧ Below w.heap.size w w' := by
  obtain ⟨L, hr, h1, h2⟩ := Cr.row_bytes w2
  exact places_walk f c w0 w1 a len cap L w hr h1 h2 ht
end Go.Proofs.YtpbehgjpajjfkaaDoor
