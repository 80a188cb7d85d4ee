/-
  Texts put together: WalX, WalY.
-/
import Derived.Test.YtpbehgjpajjfkaaDoorMgF
import Derived.Deep.DeepCutAuto
import Derived.Deep.CutBlock
namespace Go.Proofs.YtpbehgjpajjfkaaDoor
open Go.ChangeShapes Go.WideShapes Go.ChangeAt Go.RowKit
set_option linter.unusedVariables false
set_option maxRecDepth 100000

theorem mod_cut (c : Int) (m : Nat) (h : 0 < m) (h7 : m ≤ 7000) : ∃ q : Nat, q < m ∧ wrap64 ((IntKind.u64.wrap c).tmod (m : Int)) = (q : Int) := by
  have h1 : 0 ≤ IntKind.u64.wrap c := (IntKind.wrap_u64 c).symm ▸ (by omega)
  rw [Int.tmod_eq_emod_of_nonneg h1]
  refine ⟨(IntKind.u64.wrap c % (m : Int)).toNat, ?_, ?_⟩
  · have := Int.emod_lt_of_pos (IntKind.u64.wrap c) (show (0 : Int) < m by omega)
    have := Int.emod_nonneg (IntKind.u64.wrap c) (show (m : Int) ≠ 0 by omega)
    omega
  · have := Int.emod_lt_of_pos (IntKind.u64.wrap c) (show (0 : Int) < m by omega)
    have := Int.emod_nonneg (IntKind.u64.wrap c) (show (m : Int) ≠ 0 by omega)
    rw [wrap_id _ (by omega) (by omega)]
    omega
theorem row_take {w : World} {a : Option Addr} {n m : Nat} {l : List Nat} (h : ByteRow w a n l) (hm : m ≤ n) : ByteRow w a m (l.take m) := by
  obtain ⟨h1, h2, h3, h4⟩ := h
  refine ⟨by rw [List.length_take]; omega, by omega, fun c hc => h3 c (List.mem_of_mem_take hc), fun h0 => ?_⟩
  obtain ⟨b, o, e, hc⟩ := h4 (by omega)
  refine ⟨b, o, e, fun i hi => ?_⟩
  rw [hc i (by omega)]
  rw [List.getD_eq_getElem?_getD, List.getD_eq_getElem?_getD, List.getElem?_take, if_pos hi]
/-- where a record of an elder age stands, none of this age does -/
theorem bad_elder {s : LSt} {N : List ByteArray} {B : List Nat} {age n : Nat} (h : s.start N = startL (age : Int) (n : Int) B) (hlt : age < s.age) (ha : s.age < 4611686018427387904) : (Wr.readNum (s.age : Int) (s.age : Int) ((s.start N).drop 1) 0).2.2 ≠ 0 := by
  obtain ⟨R, hR⟩ := startL_drop (age : Int) (n : Int) B
  rw [h, hR, readNum_other _ _ _ (by omega) (by omega) (.inl (by omega))]
  decide
def roundL (k : Nat) : LSt := ⟨2, 14, k % 2, k + 1, 0, 2⟩
/-- what stands on the disk when k rounds are over -/
structure RoundOK (N : List ByteArray) (k K : Nat) : Prop where
  len : N.length = 18
  heads : Heads N (roundL k)
  bad : (Wr.readNum ((k + 1 : Nat) : Int) ((k + 1 : Nat) : Int) ((bytesOf (N.getD 4 ⟨#[]⟩)).drop 1) 0).2.2 ≠ 0
  clear : bytesOf (N.getD (7 + K) ⟨#[]⟩) = bytesOf blank
theorem RoundOK.none {N : List ByteArray} {k K : Nat} (h : RoundOK N k K) : NoRec N (roundL k) := noRec_bad (show 2 < 14 by decide) h.bad
theorem roundOK_zero (K : Nat) (hK : K ≤ 2) : RoundOK N18 0 K := by
  refine ⟨N18_length, fmt_heads _ _ _ (by decide) (by rw [blank18_length]; decide), ?_, ?_⟩
  · exact bad_blank (s := roundL 0) (N := N18) (by decide) (by show bytesOf (N18.getD 4 _) = _; rw [N18_blank _ (by decide) (by decide)])
  · rw [N18_blank _ (by omega) (by omega)]
/-- the sectors behind a round's two records -/
def roundN (N : List ByteArray) (k : Nat) (B : List Nat) : List ByteArray := appN (appN N (roundL k) B) ((roundL k).passed B.length) [k]
theorem roundN_length (N : List ByteArray) (k : Nat) (B : List Nat) : (roundN N k B).length = N.length := by unfold roundN; rw [appN_length, appN_length]
theorem roundN_out (N : List ByteArray) (k : Nat) (B : List Nat) (i : Nat) (d : ByteArray) (h : i < 4 ∨ 7 + sectorsN B.length ≤ i) : (roundN N k B).getD i d = N.getD i d := by
  have e1 : sectorsN ([k] : List Nat).length = 1 := show sectorsN 1 = 1 by decide
  unfold roundN
  rw [appN_out _ _ _ _ _ (by rw [e1]; show i < 2 + (2 + (1 + sectorsN B.length)) ∨ 2 + (2 + (1 + sectorsN B.length)) + (1 + 1) ≤ i; omega), appN_out _ _ _ _ _ (by show i < 2 + 2 ∨ 2 + 2 + (1 + sectorsN B.length) ≤ i; omega)]
theorem RoundOK.recs {N : List ByteArray} {k : Nat} {B : List Nat} (h : RoundOK N k (sectorsN B.length)) (h256 : ∀ c ∈ B, c < 256) (hK : sectorsN B.length ≤ 2) (hk : k < 12) : Recs (roundN N k B) (roundL k) [B, [k]] := by
  have e1 : sectorsN ([k] : List Nat).length = 1 := show sectorsN 1 = 1 by decide
  have e2 : (((roundL k).passed B.length).passed ([k] : List Nat).length).used = 2 + (1 + sectorsN B.length) + (1 + sectorsN ([k] : List Nat).length) := rfl
  rw [e1] at e2
  refine recs_two h256 (fun c hc => by rw [List.mem_singleton.1 hc]; omega) (by rw [e1]; show 2 + (1 + sectorsN B.length) + (1 + 1) ≤ 14; omega) (show 14 ≤ 30000 by decide) (by rw [h.len]; show 2 + 14 ≤ 18; decide) (show k + 1 < 4611686018427387904 by omega) (show 0 + 1 ≤ 65536 by decide) (noRec_bad (by rw [e2]; show _ < 14; omega) (bad_blank (show 1 ≤ k + 1 by omega) ?_))
  show bytesOf ((roundN N k B).getD (2 + (((roundL k).passed B.length).passed ([k] : List Nat).length).used) ⟨#[]⟩) = _
  rw [e2, roundN_out _ _ _ _ _ (by omega), show 2 + (2 + (1 + sectorsN B.length) + (1 + 1)) = 7 + sectorsN B.length by omega]
  exact h.clear
theorem RoundOK.heads2 {N : List ByteArray} {k K : Nat} (h : RoundOK N k K) (B : List Nat) : Heads (roundN N k B) (roundL k) := h.heads.congr ⟨rfl, rfl, rfl⟩ (fun i d hi => roundN_out _ _ _ _ _ (.inl hi))
def cutN (N : List ByteArray) (k : Nat) (B : List Nat) : List ByteArray := (roundN N k B).set (2 + (1 - k % 2)) (bstr (headL ((k + 1 + 1 : Nat) : Int)))
theorem RoundOK.next {N : List ByteArray} {k : Nat} {B : List Nat} (h : RoundOK N k (sectorsN B.length)) (hk : k < 12) : RoundOK (cutN N k B) (k + 1) (sectorsN B.length) := by
  have hl : (roundN N k B).length = 18 := by rw [roundN_length, h.len]
  refine ⟨by unfold cutN; rw [List.length_set, hl], ?_, ?_, ?_⟩
  · have hc := (h.heads2 B).cut (show 2 + 2 ≤ _ by rw [hl]; decide) (show k + 1 + 1 < 4611686018427387904 by omega)
    have e : (roundL k).cut = roundL (k + 1) := by
      show (⟨2, 14, 1 - k % 2, k + 1 + 1, 0, 2⟩ : LSt) = ⟨2, 14, (k + 1) % 2, k + 1 + 1, 0, 2⟩
      rw [show (k + 1) % 2 = 1 - k % 2 by omega]
    rw [e] at hc
    exact hc
  · have e : (roundL (k + 1)).start (cutN N k B) = startL ((k + 1 : Nat) : Int) ((0 : Nat) : Int) B := by
      show bytesOf ((cutN N k B).getD 4 _) = _
      unfold cutN
      rw [getD_set_ne _ _ _ _ _ (by omega)]
      unfold roundN
      rw [appN_out _ _ _ _ _ (.inl (show 4 < 2 + (2 + (1 + sectorsN B.length)) by omega))]
      exact appN_start N (roundL k) B (by rw [h.len]; show 2 + 2 < 18; decide)
    exact bad_elder (s := roundL (k + 1)) (age := k + 1) (n := 0) (B := B) e (Nat.lt_succ_self (k + 1)) (show k + 1 + 1 < 4611686018427387904 by omega)
  · unfold cutN
    rw [getD_set_ne _ _ _ _ _ (by omega), roundN_out _ _ _ _ _ (.inr (Nat.le_refl _))]
    exact h.clear
end Go.Proofs.YtpbehgjpajjfkaaDoor
namespace Go.Proofs.YtpbehgjpajjfkaaDoor
open Go.ChangeShapes Go.WideShapes Go.ChangeAt Go.RowKit
set_option linter.unusedVariables false
set_option maxRecDepth 100000

abbrev IsRow := Cr.IsRow
abbrev Tab := Cr.Tab
theorem sliceTo (a : Option Addr) (len cap m : Nat) (h1 : m ≤ cap) (hc : cap ≤ maxLen) (w : World) : (Instr.slice 34 (.slice a len cap) none (some (.int .i64 (m : Int))) none).run Tryd.prog w = .ok (.slice a m cap) w := by
  rw [run_slice_h w 34 a len cap (by kernel_rfl) .i64 (m : Int) (by omega) (by omega)]
  go_simp
/-- a slice that came in does not lie in what was made since -/
theorem row_old {w : World} {a : Option Addr} {n : Nat} {l : List Nat} (h : ByteRow w a n l) (h0 : 0 < n) : ∀ x, a = some x → x.block < w.heap.size := by
  intro x hx
  obtain ⟨b, o, e, hc⟩ := h.2.2.2 h0
  rw [hx] at e
  obtain rfl := Option.some.inj e
  have := cell_lt (hc 0 h0)
  exact this
structure RoundAt (w wr : World) (k K : Nat) (p g : Nat) (F : Nat → Prop) (N : List ByteArray) : Prop where
  ok : RoundOK N k K
  disk : Qd wr F p N (17 + 20 * k)
  log : LogAt wr g p (roundL k)
  notF : ¬ F g
  new : ∀ j, F j → w.heap.size ≤ j
  newG : w.heap.size ≤ g
  below : Below w.heap.size w wr
set_option maxHeartbeats 4000000 in
theorem rounds_walk (rounds : Int) (a : Option Addr) (len cap : Nat) (L : List Nat) (w : World) (hrow : ByteRow w a len L) (hlc : len ≤ cap) (hcm : cap ≤ maxLen) (ht : Cr.Tab w) :
    Calls Tryd.prog 8 #[.int .i64 rounds, .slice a len cap] w fun e w' => e = .returned (.bool true) ∧ Below w.heap.size w w' := by
  obtain ⟨R, hR, hRe⟩ := mod_cut rounds 12 (by decide) (by decide)
  have hRe' : wrap64 ((IntKind.u64.wrap rounds).tmod 12) = (R : Int) := hRe
  obtain ⟨m, hm⟩ : ∃ m, m = min len 600 := ⟨_, rfl⟩
  obtain ⟨B, hB⟩ : ∃ B, B = L.take m := ⟨_, rfl⟩
  have hrowB : ByteRow w a m B := by rw [hB]; exact row_take hrow (by omega)
  have hBl : B.length = m := hrowB.1
  have hB256 : ∀ c ∈ B, c < 256 := hrowB.2.2.1
  have hold := row_old hrowB
  have hmin : min (len : Int) 600 = (m : Int) := by omega
  have hm600 : m ≤ 600 := by omega
  have hmc : m ≤ cap := by omega
  have hK : sectorsN m ≤ 2 := by unfold sectorsN; omega
  have hsl := fun W => sliceTo a len cap m hmc hcm W
  have HBL := Lib.hid hBl
  have HB256 := Lib.hid hB256
  have HROW := Lib.hid hrowB
  have HOLD := Lib.hid hold
  have HT := Lib.hid ht
  have hq : 0 < w.heap.size := cell_lt (ht 0 (by decide))
  have HFr := Lib.hid (fresh_any w ht)
  clear hB hrow hrowB hBl hB256 hold ht hRe hm
  go_enter Tryd.func8, Tryd.ntmps8
  go_wp2_with (first
    | (go_at_call 15; refine HFr.out.mono ?_; clear HFr; rintro e w1 ⟨p, g, F, rfl, hfr⟩; have HF := Lib.hid hfr; clear hfr)
    | (go_at_call 9; refine (logs_any _ (Cr.Tab.below HT.out HF.out.below)).mono ?_; rintro e w2 ⟨rfl, hb⟩; have HB2 := Lib.hid hb; clear hb))
  rw [hRe']
  have HRA : Hid (RoundAt w w2 0 (sectorsN m) p g F N18) := Lib.hid ⟨roundOK_zero _ hK, HF.out.disk.below HB2.out, HF.out.log.below HB2.out, HF.out.notF, HF.out.new, HF.out.newG, Below.step HB2.out HF.out.below HF.out.below.size⟩
  clear hsl hmin hRe' HF HB2
  go_loopw [6, 8] (fun l i wr => ∃ (k g : Nat) (F : Nat → Prop) (N : List ByteArray), l = .pointer (some ⟨g, 0, none⟩) ∧ i = .int .i64 (k : Int) ∧ k ≤ R ∧ RoundAt w wr k (sectorsN m) p g F N) (fun _ i _ => R - (intOf i).toNat)
  case atStart => exact ⟨0, g, F, N18, rfl, rfl, Nat.zero_le _, HRA.out⟩
  case round =>
    obtain ⟨k, g, F, N, rfl, rfl, hk, hra⟩ := hrel
    have HRr := Lib.hid hra
    clear hra HRA
    have hgl := HRr.out.log.lt
    by_cases hlt : k < R
    · have hk12 : k < 12 := by omega
      have hFq : ¬ F 0 := fun h => by have := HRr.out.new _ h; omega
      have hlenN := HRr.out.ok.len
      have HA1 := Lib.hid (append_ok wr F g p (17 + 20 * k) m cap a (roundL k) N B HRr.out.disk HRr.out.log HRr.out.notF (HROW.out.below HRr.out.below) hmc hcm (fun h0 x hx => ⟨fun h => by have := HOLD.out h0 x hx; have := HRr.out.new _ h; omega, fun h => by have := HOLD.out h0 x hx; have := HRr.out.newG; omega⟩) (show 2 + (1 + sectorsN m) ≤ 14 by omega) (show 14 ≤ 30000 by decide) (by rw [hlenN]; show 2 + 14 ≤ 18; decide) (by rw [hlenN]; decide) (show k + 1 < 4611686018427387904 by omega) (show 0 ≤ 65536 by decide) (by omega) (Cr.Tab.below HT.out HRr.out.below) hFq)
      have hu8 : IntKind.u8.wrap (k : Int) = (k : Int) := by rw [IntKind.wrap_u8]; omega
      go_wp2_with (go_at_call 11; refine HA1.out.mono ?_; clear HA1; rintro e w3 ⟨rfl, hl3, ⟨F3, hq3, hs3⟩, ho3⟩; have HL3 := Lib.hid hl3; have HQ3 := Lib.hid hq3; have HS3 := Lib.hid hs3; have HO3 := Lib.hid ho3; clear hl3 hq3 hs3 ho3)
      have HBa : Hid (Below w3.heap.size w3 (w3.alloc (.cells #[.int .u8 (k : Int)] 5))) := Lib.hid ((Below.refl _ _).alloc (Nat.le_refl _) _)
      have hb0 := HRr.out.below.size
      have HB3 : Hid (Below w.heap.size w w3) := Lib.hid (HRr.out.below.trans (HO3.out.below hb0 (fun j hj => by
        rcases hj with hj | hj
        · exact HRr.out.new j hj
        · rw [hj]; exact HRr.out.newG)))
      have hn3 : ∀ j, F3 j → w.heap.size ≤ j := fun j hj => by
        rcases (HS3.out j hj).1 with h | h
        · exact HRr.out.new j h
        · omega
      have hFq3 : ¬ F3 0 := fun h => by have := hn3 _ h; omega
      have hg3 : ¬ F3 g := fun h => (HS3.out g h).2 rfl
      have hl3 := HL3.out.lt
      have HA2 := Lib.hid (append_ok (w3.alloc (.cells #[.int .u8 (k : Int)] 5)) F3 g p (17 + 20 * k + sectorsN m + 3) 1 1 (some ⟨w3.heap.size, 0, none⟩) ((roundL k).passed m) (appN N (roundL k) B) [k] (HQ3.out.below HBa.out) (HL3.out.below HBa.out) hg3 (mark_row w3 k (by omega) (0, 0)) (by decide) (by unfold maxLen; omega) (fun _ x hx => by
        obtain rfl := Option.some.inj hx
        exact ⟨fun h => Nat.lt_irrefl _ (HQ3.out.lts _ h), fun h => by dsimp only at h; omega⟩) (show 2 + (1 + sectorsN m) + (1 + sectorsN 1) ≤ 14 by rw [show sectorsN 1 = 1 by decide]; omega) (show 14 ≤ 30000 by decide) (by rw [appN_length, hlenN]; show 2 + 14 ≤ 18; decide) (by rw [appN_length, hlenN]; decide) (show k + 1 < 4611686018427387904 by omega) (show 0 + 1 ≤ 65536 by decide) (by rw [show sectorsN 1 = 1 by decide]; omega) (Cr.Tab.below HT.out (Below.step HBa.out HB3.out HB3.out.size)) hFq3)
      go_wp2_with (go_at_call 11; refine HA2.out.mono ?_; clear HA2; rintro e w5 ⟨rfl, hl5, ⟨F5, hq5, hs5⟩, ho5⟩; have HQ5 := Lib.hid hq5; have HS5 := Lib.hid hs5; have HO5 := Lib.hid ho5; clear hl5 hq5 hs5 ho5)
      have s3 := HB3.out.size
      have sa := HBa.out.size
      have HB5 : Hid (Below w.heap.size w w5) := Lib.hid ((Below.step HBa.out HB3.out s3).trans (HO5.out.below (Nat.le_trans s3 sa) (fun j hj => by
        rcases hj with hj | hj
        · exact hn3 j hj
        · rw [hj]; exact HRr.out.newG)))
      have hn5 : ∀ j, F5 j → w.heap.size ≤ j := fun j hj => by
        rcases (HS5.out j hj).1 with h | h
        · exact hn3 j h
        · omega
      have hrN : roundN N k B = appN (appN N (roundL k) B) ((roundL k).passed m) [k] := by unfold roundN; rw [HBL.out]
      have hRO : RoundOK N k (sectorsN B.length) := by rw [HBL.out]; exact HRr.out.ok
      have HRO := Lib.hid hRO
      have HQR : Hid (Qd w5 F5 p (roundN N k B) (17 + 20 * k + 16)) := Lib.hid (by
        rw [hrN]
        exact HQ5.out.more (by rw [show sectorsN 1 = 1 by decide]; omega))
      have HOp := Lib.hid (open_heads w5 F5 p _ (roundL k) (roundN N k B) [B, [k]] HQR.out (hRO.heads2 B) (show 3 ≤ 14 by decide) (show 14 ≤ 30000 by decide) (by rw [roundN_length, hlenN]; show 2 + 14 ≤ 18; decide) (by rw [roundN_length, hlenN]; decide) (Cr.Tab.below HT.out HB5.out) (hRO.recs HB256.out (by rw [HBL.out]; exact hK) hk12))
      clear hrN hRO HQ5
      go_wp2_with (go_at_call 17; refine HOp.out.mono ?_; clear HOp; rintro e w6 ⟨v, rfl, hl6, hr6, hb6⟩; have HL6 := Lib.hid hl6; have HB6 := Lib.hid hb6; obtain ⟨rg, cr, g0, c0, g1, c1, rfl, d0, d1, r0, r1⟩ := hr6.two; clear hl6 hr6 hb6)
      rw [HBL.out] at r0 d0
      have hG6 : w5.heap.size < w6.heap.size := HL6.out.lt
      have HD : Hid (∀ W, Gl w6.drew W → W.cell? ⟨rg, 0, none⟩ = some (.slice (some ⟨g0, 0, none⟩) m c0) ∧ W.cell? ⟨rg, 1, none⟩ = some (.slice (some ⟨g1, 0, none⟩) 1 c1) ∧ W.cell? ⟨g1, 0, none⟩ = some (.int .u8 (k : Int)) ∧ (convert 34 9 (.slice (some ⟨g0, 0, none⟩) m c0)).run Tryd.prog W = .ok (.string (bstr B)) W ∧ (convert 34 9 (.slice a m cap)).run Tryd.prog W = .ok (.string (bstr B)) W) := Lib.hid (fun W hW => by
        have hb := hW.undrew
        refine ⟨(hb.cell (p := ⟨rg, 0, none⟩) (cell_lt d0)).trans d0, (hb.cell (p := ⟨rg, 1, none⟩) (cell_lt d1)).trans d1, ?_, conv_row c0 (r0.below hb), conv_row cap (((HROW.out.below HB5.out).below HB6.out).below hb)⟩
        obtain ⟨b', o', e, hc⟩ := (r1.below hb).2.2.2 (Nat.zero_lt_succ _)
        injection e with e
        injection e with e1 e2
        subst e1 e2
        exact hc 0 (Nat.zero_lt_succ _))
      have hthr : LSt.through (roundL k) [B, [k]] = ((roundL k).passed m).passed 1 := by
        show ((roundL k).passed B.length).passed 1 = _
        rw [HBL.out]
      have HL6' : Hid (LogAt w6 w5.heap.size p (((roundL k).passed m).passed 1)) := Lib.hid (by
        have := HL6.out
        rw [show LSt.through ⟨(roundL k).f, (roundL k).c, (roundL k).head, (roundL k).age, 0, 2⟩ [B, [k]] = ((roundL k).passed m).passed 1 from hthr] at this
        exact this)
      have hsum1 : IntKind.i64.wrap ((k : Int) + 1) = (k : Int) + 1 := wrap_idk _ (by omega) (by omega)
      have hsum2 : wrap64 ((k : Int) + 1) = (k : Int) + 1 := wrap_id _ (by omega) (by omega)
      have HAge : Hid (∀ W, Gl w6.drew W → Calls Tryd.prog 13 #[.pointer (some ⟨w5.heap.size, 0, none⟩)] W fun e w' => e = .returned (.int .i64 ((k : Int) + 1)) ∧ W = w') := Lib.hid (fun W hW => age_any W w5.heap.size p _ (HL6'.out.below hW.undrew))
      clear d0 d1 r0 r1 hthr
      refine wp_region_tail_lit [.is (.int .i64 0), .is (.bool false), .is (.bool false), .is (.slice (some ⟨rg, 0, none⟩) 2 cr), .is (.int .i64 2), .is (.bool false), .is (.bool false), .is (.bool false),
        .is (.slice (some ⟨rg, 0, none⟩) 2 cr), .is (.pointer (some ⟨rg, 0, none⟩)), .is (.slice (some ⟨g0, 0, none⟩) m c0), .is (.string (bstr B)), .is (.slice a m cap), .is (.string (bstr B)), .is (.bool false), .is (.bool false), .is (.bool false),
        .is (.slice (some ⟨rg, 0, none⟩) 2 cr), .is (.pointer (some ⟨rg, 1, none⟩)), .is (.slice (some ⟨g1, 0, none⟩) 1 c1), .is (.pointer (some ⟨g1, 0, none⟩)), .is (.int .u8 (k : Int)), .is (.int .i64 (k : Int)), .is (.int .u8 (k : Int)), .is (.bool false), .is (.bool false), .is (.bool false),
        .is (.pointer (some ⟨w5.heap.size, 0, none⟩)), .is (.int .i64 ((k : Int) + 1)), .is (.int .i64 (k : Int)), .is (.int .i64 ((k : Int) + 1)), .is (.bool false), .is (.bool false), .is (.bool false), .is (.pointer (some ⟨w5.heap.size, 0, none⟩))] (by kernel_rfl) (by kernel_rfl) (by kernel_rfl) (by kernel_rfl) ?_
      iterate 28 (refine wpInvT_is ?_ ?_; (focus (intro W hW hF K hK; clear hF; obtain ⟨x0, x1, x2, x3, x4⟩ := HD.out W hW; go_simp; exact hK _ _ (Gl.refl _) rfl)); simp only [Act.put, List.setIfInBounds_toArray, List.set_cons_zero, List.set_cons_succ])
      refine wpInvT_is ?_ ?_
      · intro W hW hF K hK
        clear hF
        go_simp
        refine (HAge.out W hW).mono ?_
        rintro e w' ⟨rfl, rfl⟩
        exact ⟨_, rfl, hK _ _ (Gl.refl _) rfl⟩
      simp only [Act.put, List.setIfInBounds_toArray, List.set_cons_zero, List.set_cons_succ]
      iterate 6 (refine wpInvT_is ?_ ?_; (focus (intro W hW hF K hK; clear hF; go_simp; exact hK _ _ (Gl.refl _) rfl)); simp only [Act.put, List.setIfInBounds_toArray, List.set_cons_zero, List.set_cons_succ])
      refine wpInvT_tail ?_
      intro W hW hF
      clear hF hsum1 hsum2
      have HW := Lib.hid hW.undrew
      have sW := HW.out.size
      have s6 := HB6.out.size
      have HTr := Lib.hid (truncate_any W F5 w5.heap.size p (17 + 20 * k + 16) (((roundL k).passed m).passed 1) (roundN N k B) ((HQR.out.below HB6.out).below HW.out) (HL6'.out.below HW.out) (fun h => Nat.lt_irrefl _ (HQR.out.lts _ h)) (show k % 2 ≤ 1 by omega) (by rw [roundN_length, hlenN]; show 2 + 2 ≤ 18; decide) (by rw [roundN_length, hlenN]; decide) (show k + 1 < 4611686018427387904 by omega) (by omega) (Cr.Tab.below HT.out (Below.step HW.out (Below.step HB6.out HB5.out HB5.out.size) (Nat.le_trans HB5.out.size s6))) (fun h => by have := hn5 _ h; omega))
      simp only [TailL]
      go_simp
      refine HTr.out.mono ?_
      rintro e w7 ⟨rfl, hl7, ⟨F7, hq7, hs7⟩, ho7⟩
      refine ⟨_, rfl, ?_⟩
      have HL7 := Lib.hid hl7
      have HQ7 := Lib.hid hq7
      have HS7 := Lib.hid hs7
      have HO7 := Lib.hid ho7
      clear hl7 hq7 hs7 ho7 hW HTr
      go_simp
      go_wp2_with fail
      have s7 := HO7.out.size
      have hnG5 : ¬ F5 w5.heap.size := fun h => Nat.lt_irrefl _ (HQR.out.lts _ h)
      have HB7 : Hid (Below w.heap.size w w7) := Lib.hid ((Below.step HW.out (Below.step HB6.out HB5.out HB5.out.size) (Nat.le_trans HB5.out.size s6)).trans (HO7.out.below (Nat.le_trans HB5.out.size (Nat.le_trans s6 sW)) (fun j hj => by
        rcases hj with hj | hj
        · exact hn5 j hj
        · rw [hj]; exact HB5.out.size)))
      have hcut : (((roundL k).passed m).passed 1).cut = roundL (k + 1) := by
        show (⟨2, 14, 1 - k % 2, k + 1 + 1, 0, 2⟩ : LSt) = ⟨2, 14, (k + 1) % 2, k + 1 + 1, 0, 2⟩
        rw [show (k + 1) % 2 = 1 - k % 2 by omega]
      go_roundw
      case rel =>
        refine ⟨k + 1, w5.heap.size, F7, cutN N k B, rfl, by go_num, by omega, ⟨?_, HQ7.out.more (by omega), ?_, fun h => (HS7.out _ h).2 rfl, fun j hj => ?_, HB5.out.size, HB7.out⟩⟩
        · have := HRO.out.next hk12
          rw [HBL.out] at this
          exact this
        · rw [← hcut]
          exact HL7.out
        · rcases (HS7.out j hj).1 with h | h
          · exact hn5 j h
          · have := HB5.out.size
            omega
      case measure => simp [intOf]; omega
    · have hkR : k = R := by omega
      subst hkR
      have hlenN := HRr.out.ok.len
      have HOp := Lib.hid (open_heads wr F p _ (roundL k) N [] HRr.out.disk HRr.out.ok.heads (show 3 ≤ 14 by decide) (show 14 ≤ 30000 by decide) (by rw [hlenN]; show 2 + 14 ≤ 18; decide) (by rw [hlenN]; decide) (Cr.Tab.below HT.out HRr.out.below) HRr.out.ok.none)
      have hke : ((roundL k).age : Int) = (k : Int) + 1 := rfl
      go_wp2_with (first
        | (go_at_call 17; refine HOp.out.mono ?_; clear HOp; rintro e w6 ⟨v, rfl, hl6, hr6, hb6⟩; have HB6 := Lib.hid hb6; obtain ⟨_, _, _, hv⟩ := hr6; obtain rfl := hv rfl; have HAge := Lib.hid (age_any w6 g p (roundL k) (HRr.out.log.below hb6)); rw [hke] at HAge; clear hl6 hb6 hv)
        | (go_at_call 13; refine HAge.out.mono ?_; rintro e w7 ⟨rfl, rfl⟩))
      go_ret
      exact ⟨rfl, Below.step HB6.out HRr.out.below HRr.out.below.size⟩
theorem walRounds_law {w : World} (rounds : Int) (w0 : (Lit.int .i64 rounds).wf = true) (a : Option Addr) (len cap : Nat) (zs : List Int) (w1 : IsRow .u8 w a len cap zs) (ht : Tab w) :
    Calls Tryd.prog 8 #[.int .i64 rounds, .slice a len cap] w fun e w' => e = .returned (.bool true) ∧ Below w.heap.size w w' := by
  obtain ⟨L, hr, h1, h2⟩ := Cr.row_bytes w1
  exact rounds_walk rounds a len cap L w hr h1 h2 ht
end Go.Proofs.YtpbehgjpajjfkaaDoor
