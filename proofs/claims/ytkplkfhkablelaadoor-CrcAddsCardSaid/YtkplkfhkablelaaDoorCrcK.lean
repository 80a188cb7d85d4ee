/-
  The law CrcAdds: the walk.
-/
import Derived.Test.YtkplkfhkablelaaDoorCrcF
import Derived.Test.YtkplkfhkablelaaDoorCrcE
import Derived.WalkLawsBesides
import Derived.OwnWalk
import Derived.Deep.RegionHeld3
import Derived.Deep.AppendLies
import Derived.Deep.OwnRows
import Derived.Deep.DeepCutAuto
import Derived.Outline
import Derived.Deep.CutBlock
import Derived.Test.YtkplkfhkablelaaDoorReg
namespace Go.Proofs.YtkplkfhkablelaaDoor
open Go.ChangeShapes Go.WideShapes Go.ChangeAt Go.RowKit
set_option linter.unusedVariables false

/-- two rows, put together -/
def mix : List Nat → List Nat → List Nat
  | a :: l, b :: m => (a ^^^ b) :: mix l m
  | _, _ => []
theorem val_int {k : IntKind} {a b : Int} (h : a = b) : Value.int k a = .int k b := by rw [h]
theorem mix_len (l m : List Nat) (h : l.length = m.length) : (mix l m).length = l.length := by
  induction l generalizing m with
  | nil => cases m with
    | nil => rfl
    | cons b m => simp at h
  | cons a l ih => cases m with
    | nil => simp at h
    | cons b m => simp only [mix, List.length_cons]; rw [ih m (by simpa using h)]
theorem reg_mix (r s : Nat) (l m : List Nat) (h : l.length = m.length) : reg (r ^^^ s) (mix l m) = reg r l ^^^ reg s m := by
  induction l generalizing m r s with
  | nil => cases m with
    | nil => rfl
    | cons b m => simp at h
  | cons a l ih => cases m with
    | nil => simp at h
    | cons b m =>
      show reg (byteS (r ^^^ s) (a ^^^ b)) (mix l m) = reg (byteS r a) l ^^^ reg (byteS s b) m
      rw [byteS_xor]
      exact ih _ _ m (by simpa using h)
theorem mix_zero (l : List Nat) (n : Nat) (h : l.length = n) : mix l (List.replicate n 0) = l := by
  induction l generalizing n with
  | nil => subst h; rfl
  | cons a l ih =>
    cases n with
    | zero => simp at h
    | succ n =>
      simp only [List.replicate_succ, mix, Nat.xor_zero]
      rw [ih n (by simpa using h)]
theorem sum_mix (l m : List Nat) (n : Nat) (h1 : l.length = n) (h2 : m.length = n) : sum l ^^^ sum m ^^^ sum (List.replicate n 0) = sum (mix l m) := by
  have e1 := reg_mix (flip32 0) (flip32 0) l m (by omega)
  have e2 := reg_mix (flip32 0 ^^^ flip32 0) (flip32 0) (mix l m) (List.replicate n 0) (by rw [mix_len l m (by omega), List.length_replicate]; exact h1)
  rw [mix_zero _ n (by rw [mix_len l m (by omega)]; exact h1), e1, Nat.xor_self, Nat.zero_xor] at e2
  have key : sum (mix l m) = flip32 ((reg (flip32 0) l ^^^ reg (flip32 0) m) ^^^ reg (flip32 0) (List.replicate n 0)) := by
    show flip32 (reg (flip32 0) (mix l m)) = _
    rw [e2]
  rw [key]
  show flip32 (reg (flip32 0) l) ^^^ flip32 (reg (flip32 0) m) ^^^ flip32 (reg (flip32 0) (List.replicate n 0)) = _
  generalize reg (flip32 0) l = x
  generalize reg (flip32 0) m = y
  generalize reg (flip32 0) (List.replicate n 0) = z
  unfold flip32
  have : x ^^^ 4294967295 ^^^ (y ^^^ 4294967295) ^^^ (z ^^^ 4294967295) = x ^^^ y ^^^ z ^^^ 4294967295 ^^^ (4294967295 ^^^ 4294967295) := by ac_rfl
  rw [this, Nat.xor_self, Nat.xor_zero]
theorem mix_lt (l m : List Nat) (hl : ∀ c ∈ l, c < 256) (hm : ∀ c ∈ m, c < 256) : ∀ c ∈ mix l m, c < 256 := by
  induction l generalizing m with
  | nil => intro c hc; cases hc
  | cons a l ih => cases m with
    | nil => intro c hc; cases hc
    | cons b m =>
      intro c hc
      rcases List.mem_cons.1 hc with rfl | hc
      · exact Nat.xor_lt_two_pow (n := 8) (hl a (by simp)) (hm b (by simp))
      · exact ih m (fun c hc => hl c (by simp [hc])) (fun c hc => hm c (by simp [hc])) c hc
theorem mix_take (l m : List Nat) (k : Nat) (h1 : k < l.length) (h2 : k < m.length) : mix (l.take (k + 1)) (m.take (k + 1)) = mix (l.take k) (m.take k) ++ [l.getD k 0 ^^^ m.getD k 0] := by
  induction l generalizing m k with
  | nil => simp at h1
  | cons a l ih => cases m with
    | nil => simp at h2
    | cons b m =>
      cases k with
      | zero => simp [mix]
      | succ k =>
        simp only [List.take_succ_cons, mix, List.cons_append, List.getD_cons_succ]
        rw [ih m k (by simpa using h1) (by simpa using h2)]

def vals (l : List Nat) : List Value := l.map fun (c : Nat) => Value.int .u8 (c : Int)
theorem vals_length (l : List Nat) : (vals l).length = l.length := List.length_map ..
theorem vals_append (l m : List Nat) : vals (l ++ m) = vals l ++ vals m := List.map_append
theorem vals_get (l : List Nat) (i : Nat) (h : i < l.length) : (vals l)[i]? = some (.int .u8 ((l.getD i 0 : Nat) : Int)) := by
  simp [vals, List.getElem?_map, List.getElem?_eq_getElem h, List.getD]
theorem vals_one (l : List Nat) : ∀ u ∈ vals l, u.oneCell' = true := by
  intro u hu
  obtain ⟨c, _, rfl⟩ := List.mem_map.1 hu
  rfl
theorem info5 : (Tryd.prog.info? 5).map (fun i => (i.zero, i.size, i.bytes)) = some (some (.int .u8 0), 1, 1) := by kernel_rfl
theorem ownsRow_below {w w' : World} {base : Nat} {e : TypeId} {size : Nat} {v : Value} {n : Nat} {xs : List Value} (h : w.ownsRow base e size v n xs) (hb : Below w.heap.size w w') : w'.ownsRow base e size v n xs := by
  have hl := h.lt
  obtain ⟨h1, h2⟩ := h
  refine ⟨h1, ?_⟩
  rcases h2 with h2 | ⟨g, cap, cur, rfl, hbs, hh, r⟩
  · exact .inl h2
  · exact .inr ⟨g, cap, cur, rfl, hbs, by rw [hb.block g (hl g rfl).2]; exact hh, r⟩
theorem own_base {w : World} {base n : Nat} {e : TypeId} {v : Value} {xs : List Value} (h : w.ownsRow base e 1 v n xs) {k : Nat} (hk : v.ownBlock = some k) : base ≤ k := by
  rcases h.2 with ⟨rfl, _⟩ | ⟨g, cap, cur, rfl, hb, _⟩
  · cases hk
  · cases hk; exact hb
/-- a row of the call's own, as a slice -/
theorem bytes_of_own {w : World} {base n : Nat} {v : Value} {l : List Nat} (h : w.ownsRow base 5 1 v n (vals l)) (hl : ∀ c ∈ l, c < 256) (hm : n ≤ maxLen) :
    ∃ a cap, v = .slice a n cap ∧ ByteRow w a n l ∧ n ≤ cap ∧ (∀ x, a = some x → base ≤ x.block ∧ x.block < w.heap.size) := by
  have hlt := h.lt
  obtain ⟨h1, h2⟩ := h
  rw [vals_length, Nat.mul_one] at h1
  rcases h2 with ⟨rfl, rfl⟩ | ⟨g, cap, cur, rfl, hb, hh, hn, hmx, hs, ht⟩
  · obtain rfl : l = [] := List.eq_nil_of_length_eq_zero h1
    exact ⟨none, 0, rfl, ByteRow.nil w none, Nat.le_refl _, (fun x h => by cases h)⟩
  · refine ⟨some ⟨g, 0, none⟩, cap, rfl, ⟨h1, hm, hl, fun _ => ⟨g, 0, rfl, fun i hi => ?_⟩⟩, hn, fun x hx => ?_⟩
    · have e2 := vals_get l i (by omega)
      rw [← ht, List.getElem?_take, if_pos (by omega)] at e2
      rw [Nat.zero_add]
      simp only [World.cell?, hh]
      simpa using e2
    · cases hx
      exact hlt g rfl

theorem ByteRow.at_ {w : World} {a : Option Addr} {n : Nat} {l : List Nat} (h : ByteRow w a n l) {k : Nat} (hk : k < n) :
    ∃ p : Addr, p.block < w.heap.size ∧ w.cell? p = some (.int .u8 ((l.getD k 0 : Nat) : Int)) ∧ l.getD k 0 < 256 ∧ ∀ (m cap : Nat) (W : World), k < m → (Instr.indexAt 22 (.slice a m cap) (.int .i64 (k : Int))).run Tryd.prog W = .ok (.pointer (some p)) W := by
  obtain ⟨h1, h2, h3, h4⟩ := h
  obtain ⟨b, o, rfl, hc⟩ := h4 (by omega)
  refine ⟨⟨b, o + k, none⟩, cell_lt (hc k hk), hc k hk, h3 _ (getD_mem l k (by omega)), fun m cap W hm => ?_⟩
  have e1 : (0 : Int) ≤ (k : Int) := by omega
  have e2 : (k : Int) < (m : Int) := by omega
  clear hc h4 h3
  go_simp

theorem made_zero (w : World) (k i Z : Nat) (hi : i < k) (hZ : Z = w.heap.size) : (w.alloc (.cells (madeCells #[.int .u8 0] k) 5)).cell? ⟨Z, i, none⟩ = some (.int .u8 0) := by
  subst hZ
  have e1 : (w.alloc (.cells (madeCells #[.int .u8 0] k) 5)).heap[w.heap.size]? = some (.cells (madeCells #[.int .u8 0] k) 5) := by
    show (w.heap.push _)[w.heap.size]? = _
    rw [Array.getElem?_push, if_pos rfl]
  simp only [World.cell?, e1]
  simp [madeCells, hi, Nat.mod_one]
theorem zero_row {W : World} {Z k : Nat} (hk : k ≤ 2000) (h : ∀ i, i < k → W.cell? ⟨Z, i, none⟩ = some (.int .u8 0)) : ByteRow W (some ⟨Z, 0, none⟩) k (List.replicate k 0) := by
  refine ⟨List.length_replicate, by unfold maxLen; omega, fun c hc => by rw [List.eq_of_mem_replicate hc]; decide, fun _ => ⟨Z, 0, rfl, fun i hi => ?_⟩⟩
  rw [Nat.zero_add, h i hi]
  simp [List.getD, hi]
theorem sums_xor (la lb : List Nat) (k : Nat) (h1 : la.length = k) (h2 : lb.length = k) (hl : ∀ c ∈ la, c < 256) (hm : ∀ c ∈ lb, c < 256) : ∃ X : Nat, bits .xor .u32 (sum la : Nat) (sum lb : Nat) = (X : Int) ∧ X < 4294967296 ∧ bits .xor .u32 (X : Int) (sum (List.replicate k 0) : Nat) = ((sum (mix la lb) : Nat) : Int) := by
  have e1 : sum la < 4294967296 := more_lt _ _ (by decide) hl
  have e2 : sum lb < 4294967296 := more_lt _ _ (by decide) hm
  have e3 : sum (List.replicate k 0) < 4294967296 := more_lt _ _ (by decide) (fun c hc => by rw [List.eq_of_mem_replicate hc]; decide)
  refine ⟨sum la ^^^ sum lb, u32_xor_nat _ _ e1 e2, Nat.xor_lt_two_pow (n := 32) e1 e2, ?_⟩
  rw [u32_xor_nat _ _ (Nat.xor_lt_two_pow (n := 32) e1 e2) e3, sum_mix la lb k h1 h2]

def One (a : Option Addr) (n cap : Nat) : Value → World → Prop := fun v W => ∃ B, v = .slice (some ⟨B, 0, none⟩) 1 1 ∧ W.cell? ⟨B, 0, none⟩ = some (.slice a n cap)
theorem one_stable (a : Option Addr) (n cap : Nat) : Stable (One a n cap) := by
  rintro v W W' h ⟨B, rfl, hc⟩
  exact ⟨B, rfl, (Below.cell h (cell_lt hc)).trans hc⟩
def MadeZ (k : Nat) : Value → World → Prop := fun v W => ∃ Z, v = .slice (some ⟨Z, 0, none⟩) k k ∧ Z < W.heap.size ∧ ∀ i, i < k → W.cell? ⟨Z, i, none⟩ = some (.int .u8 0)
theorem madeZ_stable (k : Nat) : Stable (MadeZ k) := by
  rintro v W W' h ⟨Z, rfl, hz, hc⟩
  exact ⟨Z, rfl, Nat.lt_of_lt_of_le hz h.size, fun i hi => (Below.cell h (p := ⟨Z, i, none⟩) hz).trans (hc i hi)⟩
def OneZ (k : Nat) : Value → World → Prop := fun v W => ∃ B Z, v = .slice (some ⟨B, 0, none⟩) 1 1 ∧ W.cell? ⟨B, 0, none⟩ = some (.slice (some ⟨Z, 0, none⟩) k k) ∧ Z < W.heap.size ∧ ∀ i, i < k → W.cell? ⟨Z, i, none⟩ = some (.int .u8 0)
theorem oneZ_stable (k : Nat) : Stable (OneZ k) := by
  rintro v W W' h ⟨B, Z, rfl, hb, hz, hc⟩
  exact ⟨B, Z, rfl, (Below.cell h (cell_lt hb)).trans hb, Nat.lt_of_lt_of_le hz h.size, fun i hi => (Below.cell h (p := ⟨Z, i, none⟩) hz).trans (hc i hi)⟩
set_option maxRecDepth 100000 in
set_option maxHeartbeats 2000000 in
theorem adds_walk (a a2 : Option Addr) (n cap n2 cap2 : Nat) (la lb : List Nat) (K : Nat) (w : World)
    (hK : K = min (min n n2) 2000)
    (hK1 : K ≤ n) (hK2 : K ≤ n2) (hK3 : K ≤ 2000) (hc : n ≤ cap) (hc2 : n2 ≤ cap2) (hca : cap ≤ maxLen) (hcb : cap2 ≤ maxLen) (hra : ByteRow w a K la) (hrb : ByteRow w a2 K lb) (ht : Tab w) :
    Calls Tryd.prog 6 #[.slice a n cap, .slice a2 n2 cap2] w fun e w' => e = .returned (.bool true) ∧ Below w.heap.size w w' := by
  obtain ⟨i0, hi, hz0, hz1, hz2⟩ := info_parts info5
  have HRA := Lib.hid hra
  have HRB := Lib.hid hrb
  have HT := Lib.hid ht
  clear hra hrb ht
  go_enter Tryd.func6, Tryd.ntmps6
  go_upto_region 1 with fail
  go_cut [5] (fun v wx => v = .int .i64 (K : Int) ∧ w = wx)
  case first =>
    go_wp2_with fail
    all_goals go_meet
    all_goals exact ⟨val_int (by omega), rfl⟩
  case rest =>
  obtain ⟨rfl, rfl⟩ := hcut
  clear hK
  go_wp2_with fail
  go_loopw [6, 7] (fun c i wr => ∃ k : Nat, i = .int .i64 k ∧ k ≤ K ∧ wr.ownsRow w.heap.size 5 1 c k (vals (mix (la.take k) (lb.take k))) ∧ Below w.heap.size w wr) (fun _ i _ => K - (intOf i).toNat)
  case atStart => exact ⟨0, rfl, Nat.zero_le _, World.ownsRow_nil _ _ _ _, Below.refl _ _⟩
  case round =>
    obtain ⟨k, rfl, hk, hown, hbel⟩ := hrel
    have HO := Lib.hid hown
    have HB := Lib.hid hbel
    clear hown hbel
    by_cases g : k < K
    · obtain ⟨p, hp, hcl, hlt, hix⟩ := HRA.out.at_ g
      obtain ⟨p2, hp2, hcl2, hlt2, hix2⟩ := HRB.out.at_ g
      have hixa := fun W => hix n cap W (by omega)
      have hixb := fun W => hix2 n2 cap2 W (by omega)
      have HM := Lib.hid (mix_take la lb k (by rw [HRA.out.1]; exact g) (by rw [HRB.out.1]; exact g))
      have hx := u8_xor_nat _ _ hlt hlt2
      generalize la.getD k 0 = x at *
      generalize lb.getD k 0 = y at *
      generalize x ^^^ y = z at *
      have HS : Hid (∀ W, Below w.heap.size w W → W.cell? p = some (.int .u8 (x : Int)) ∧ W.cell? p2 = some (.int .u8 (y : Int))) := fun W hB => ⟨(hB.cell hp).trans hcl, (hB.cell hp2).trans hcl2⟩
      clear hcl hcl2 hix hix2
      go_wp2_with fail
      go_region_held3 (fun w' => w'.cell? p = some (.int .u8 (x : Int)) ∧ w'.cell? p2 = some (.int .u8 (y : Int))) (first | exact HS.out _ (Below.drew HB.out) | exact HS.out _ (Below.drew (Below.alloc' HB.out _)) | exact HS.out _ (Below.alloc' HB.out _) | exact HS.out _ HB2.out)
        ((refine step_append_lies _ (by rfl) _ _ _ (by rfl) w.heap.size 5 i0 _ 1 1 Tryd.underlying22 hi hz0 hz1 hz2 rfl (by omega) u6 k (vals (mix (la.take k) (lb.take k))) (by rfl) ((HO.out.alloc _).drew) ⟨wr.heap.size, 0, none⟩ 1 1 [.int .u8 (z : Int)] (by rfl) (by rfl) (World.news_of_block (cs := #[.int .u8 (z : Int)]) (t := 5) (fr := (0, 0)) (heap_alloc_new wr _)) (by simp [Value.oneCell']) (by omega) (by unfold maxLen; omega) (by omega) (by have := HB.out.size; simp; omega) (wr.heap.size + 1) (by simp) ?_; intro gg capg w3 hown hgrow hat hlt3; have HB2 := Lib.hid ((Below.drew (Below.alloc' HB.out _)).grown hgrow (by have := HB.out.size; simp; omega) (fun k hk => own_base HO.out hk)); have HO2 := Lib.hid hown; clear hown hgrow hat hlt3))
      go_wp2_with fail
      go_roundw
      case rel => exact ⟨k + 1, by go_num, by omega, by rw [HM.out, vals_append]; exact HO2.out, HB2.out⟩
      case measure => simp [intOf]; omega
    · have HML : Hid (mix (la.take k) (lb.take k) = mix la lb) := Lib.hid (by rw [List.take_of_length_le (by rw [HRA.out.1]; omega), List.take_of_length_le (by rw [HRB.out.1]; omega)])
      have hown := HO.out
      rw [HML.out] at hown
      obtain rfl : k = K := by omega
      obtain ⟨ac, capc, rfl, hrc, hcc, hxc⟩ := bytes_of_own hown (mix_lt _ _ HRA.out.2.2.1 HRB.out.2.2.1) (by unfold maxLen; omega)
      have HRC := Lib.hid hrc
      clear hown HO hrc hcc hxc HML
      have s1 := slice_to a n cap k (by omega)
      have s2 := slice_to a2 n2 cap2 k (by omega)
      have hmk := run_make_row' (P := Tryd.prog) 22 5 (.int .u8 0) 1 Tryd.underlying22 info5 rfl .i64 .i64 k (by omega) (by omega)
      obtain ⟨XS, hX1, hX2, hX⟩ := sums_xor la lb k HRA.out.1 HRB.out.1 HRA.out.2.2.1 HRB.out.2.2.1
      have H0 : Hid (∀ W, Below wr.heap.size wr W → Calls Tryd.prog 11 #[] W fun e w' => e = .returned (.bool true) ∧ Below W.heap.size W w') := Lib.hid (fun W b => sums_any W (HT.out.below (Below.step b HB.out)))
      have H1 : Hid (∀ (W : World) (B : Nat), Below wr.heap.size wr W → W.cell? ⟨B, 0, none⟩ = some (.slice a k cap) → Calls Tryd.prog 12 #[.slice (some ⟨B, 0, none⟩) 1 1] W fun e w' => e = .returned (.int .u32 (sum la : Nat)) ∧ W = w') := Lib.hid (fun W B b hc => sum_one B 1 a k cap la W hc (HRA.out.below (Below.step b HB.out)) (HT.out.below (Below.step b HB.out)))
      have H2 : Hid (∀ (W : World) (B : Nat), Below wr.heap.size wr W → W.cell? ⟨B, 0, none⟩ = some (.slice a2 k cap2) → Calls Tryd.prog 12 #[.slice (some ⟨B, 0, none⟩) 1 1] W fun e w' => e = .returned (.int .u32 (sum lb : Nat)) ∧ W = w') := Lib.hid (fun W B b hc => sum_one B 1 a2 k cap2 lb W hc (HRB.out.below (Below.step b HB.out)) (HT.out.below (Below.step b HB.out)))
      have H4 : Hid (∀ (W : World) (B : Nat), Below wr.heap.size wr W → W.cell? ⟨B, 0, none⟩ = some (.slice ac k capc) → Calls Tryd.prog 12 #[.slice (some ⟨B, 0, none⟩) 1 1] W fun e w' => e = .returned (.int .u32 (sum (mix la lb) : Nat)) ∧ W = w') := Lib.hid (fun W B b hc => sum_one B 1 ac k capc (mix la lb) W hc (HRC.out.below b) (HT.out.below (Below.step b HB.out)))
      have H3 : Hid (∀ (W : World) (B Z : Nat), Below wr.heap.size wr W → W.cell? ⟨B, 0, none⟩ = some (.slice (some ⟨Z, 0, none⟩) k k) → (∀ i, i < k → W.cell? ⟨Z, i, none⟩ = some (.int .u8 0)) → Calls Tryd.prog 12 #[.slice (some ⟨B, 0, none⟩) 1 1] W fun e w' => e = .returned (.int .u32 (sum (List.replicate k 0) : Nat)) ∧ W = w') := Lib.hid (fun W B Z b hc hz => sum_one B 1 (some ⟨Z, 0, none⟩) k k (List.replicate k 0) W hc (zero_row (by omega) hz) (HT.out.below (Below.step b HB.out)))
      have b0 := Below.refl wr.heap.size wr
      generalize sum (List.replicate k 0) = s3 at *
      generalize sum (mix la lb) = s4 at *
      generalize sum la = s1v at *
      generalize sum lb = s2v at *
      clear g
      go_upto_region 7 with fail
      refine wp_region_inv_lit [.is (.bool true), .is (.bool true),
        .is (.slice a n cap), .is (.int .i64 k), .is (.slice a k cap), .has (One a k cap), .is (.int .u32 s1v),
        .is (.slice a2 n2 cap2), .is (.int .i64 k), .is (.slice a2 k cap2), .has (One a2 k cap2), .is (.int .u32 s2v), .is (.int .u32 XS),
        .is (.int .i64 k), .has (MadeZ k), .has (OneZ k), .is (.int .u32 s3), .is (.int .u32 s4),
        .is (.slice ac k capc), .has (One ac k capc), .is (.int .u32 s4), .is (.bool true), .is (.bool true), .is (.bool true)] (by kernel_rfl) (by kernel_rfl) ?_
      refine wpInv_is ?_ ?_
      · intro W hW hF K hK
        clear hF
        go_simp
        refine (H0.out W hW.undrew).mono ?_
        rintro e w1 ⟨rfl, hb⟩
        exact ⟨_, rfl, hK _ _ hb rfl⟩
      repeat1' (refine wpInv_is ?_ ?_; (focus (intro W hW hF K hK; clear hF; go_simp; exact hK _ _ (Gl.refl _) rfl)); simp only [Act.put, List.setIfInBounds_toArray, List.set_cons_zero, List.set_cons_succ])
      refine wpInv_has _ (one_stable _ _ _) ?_ ?_
      · intro W hW hF K hK
        clear hF
        go_simp
        exact hK _ _ (Gl.alloc W _) ⟨W.heap.size, rfl, cell_at0 W _ _ 0 _ rfl⟩
      intro v5
      simp only [Act.put, List.setIfInBounds_toArray, List.set_cons_zero, List.set_cons_succ]
      refine wpInv_is ?_ ?_
      · intro W hW hF K hK
        obtain ⟨B, rfl, hc⟩ := hF _ (List.mem_cons_self ..) (by kernel_rfl)
        clear hF
        go_simp
        refine (H1.out W B hW.undrew hc).mono ?_
        rintro e w1 ⟨rfl, rfl⟩
        exact ⟨_, rfl, hK _ _ (Gl.refl _) rfl⟩
      simp only [Act.put, List.setIfInBounds_toArray, List.set_cons_zero, List.set_cons_succ]
      repeat1' (refine wpInv_is ?_ ?_; (focus (intro W hW hF K hK; clear hF; go_simp; exact hK _ _ (Gl.refl _) rfl)); simp only [Act.put, List.setIfInBounds_toArray, List.set_cons_zero, List.set_cons_succ])
      refine wpInv_has _ (one_stable _ _ _) ?_ ?_
      · intro W hW hF K hK
        clear hF
        go_simp
        exact hK _ _ (Gl.alloc W _) ⟨W.heap.size, rfl, cell_at0 W _ _ 0 _ rfl⟩
      intro v10
      simp only [Act.put, List.setIfInBounds_toArray, List.set_cons_zero, List.set_cons_succ]
      refine wpInv_is ?_ ?_
      · intro W hW hF K hK
        obtain ⟨B, rfl, hc⟩ := hF _ (List.mem_cons_self ..) (by kernel_rfl)
        clear hF
        go_simp
        refine (H2.out W B hW.undrew hc).mono ?_
        rintro e w1 ⟨rfl, rfl⟩
        exact ⟨_, rfl, hK _ _ (Gl.refl _) rfl⟩
      simp only [Act.put, List.setIfInBounds_toArray, List.set_cons_zero, List.set_cons_succ]
      repeat1' (refine wpInv_is ?_ ?_; (focus (intro W hW hF K hK; clear hF; go_simp; exact hK _ _ (Gl.refl _) rfl)); simp only [Act.put, List.setIfInBounds_toArray, List.set_cons_zero, List.set_cons_succ])
      refine wpInv_has _ (madeZ_stable _) ?_ ?_
      · intro W hW hF K hK
        clear hF
        go_simp
        exact hK _ _ (Gl.alloc W _) ⟨W.heap.size, rfl, by rw [size_alloc]; exact Nat.lt_succ_self _, fun i hi => made_zero W k i _ hi rfl⟩
      intro v14
      simp only [Act.put, List.setIfInBounds_toArray, List.set_cons_zero, List.set_cons_succ]
      refine wpInv_has _ (oneZ_stable _) ?_ ?_
      · intro W hW hF K hK
        obtain ⟨Z, rfl, hz, hcz⟩ := hF _ (List.mem_cons_self ..) (by kernel_rfl)
        have HZ := Lib.hid hcz
        clear hF hcz
        go_simp
        exact hK _ _ (Gl.alloc W _) ⟨W.heap.size, Z, rfl, cell_at0 W _ _ 0 _ rfl, by rw [size_alloc]; exact Nat.lt_succ_of_lt hz, fun i hi => (Below.cell (Gl.alloc W _) (p := ⟨Z, i, none⟩) hz).trans (HZ.out i hi)⟩
      intro v15
      simp only [Act.put, List.setIfInBounds_toArray, List.set_cons_zero, List.set_cons_succ]
      refine wpInv_is ?_ ?_
      · intro W hW hF K hK
        obtain ⟨B, Z, rfl, hc, hz, hcz⟩ := hF _ (List.mem_cons_self ..) (by kernel_rfl)
        have HZ := Lib.hid hcz
        clear hF hcz
        go_simp
        refine (H3.out W B Z hW.undrew hc HZ.out).mono ?_
        rintro e w1 ⟨rfl, rfl⟩
        exact ⟨_, rfl, hK _ _ (Gl.refl _) rfl⟩
      simp only [Act.put, List.setIfInBounds_toArray, List.set_cons_zero, List.set_cons_succ]
      repeat1' (refine wpInv_is ?_ ?_; (focus (intro W hW hF K hK; clear hF; go_simp; exact hK _ _ (Gl.refl _) rfl)); simp only [Act.put, List.setIfInBounds_toArray, List.set_cons_zero, List.set_cons_succ])
      refine wpInv_has _ (one_stable _ _ _) ?_ ?_
      · intro W hW hF K hK
        clear hF
        go_simp
        exact hK _ _ (Gl.alloc W _) ⟨W.heap.size, rfl, cell_at0 W _ _ 0 _ rfl⟩
      intro v19
      simp only [Act.put, List.setIfInBounds_toArray, List.set_cons_zero, List.set_cons_succ]
      refine wpInv_is ?_ ?_
      · intro W hW hF K hK
        obtain ⟨B, rfl, hc⟩ := hF _ (List.mem_cons_self ..) (by kernel_rfl)
        clear hF
        go_simp
        refine (H4.out W B hW.undrew hc).mono ?_
        rintro e w1 ⟨rfl, rfl⟩
        exact ⟨_, rfl, hK _ _ (Gl.refl _) rfl⟩
      simp only [Act.put, List.setIfInBounds_toArray, List.set_cons_zero, List.set_cons_succ]
      repeat1' (refine wpInv_is ?_ ?_; (focus (intro W hW hF K hK; clear hF; go_simp; exact hK _ _ (Gl.refl _) rfl)); simp only [Act.put, List.setIfInBounds_toArray, List.set_cons_zero, List.set_cons_succ])
      refine wpInv_end ?_
      intro W hW hF
      clear hF
      have HBW := Lib.hid (Below.step hW.undrew HB.out)
      clear hW
      go_wp2_with fail
      go_ret
      exact ⟨rfl, HBW.out⟩
theorem crcAdds_law {w : World} (a : Option Addr) (n cap : Nat) (zs : List Int) (w0 : IsRow .u8 w a n cap zs) (a2 : Option Addr) (n2 cap2 : Nat) (zs2 : List Int) (w1 : IsRow .u8 w a2 n2 cap2 zs2) (ht : Tab w) :
    Calls Tryd.prog 6 #[.slice a n cap, .slice a2 n2 cap2] w fun e w' => e = .returned (.bool true) ∧ Below w.heap.size w w' := by
  obtain ⟨l, hr, h1, h2⟩ := row_bytes w0
  obtain ⟨l2, hr2, h3, h4⟩ := row_bytes w1
  have k1 : min (min n n2) 2000 ≤ n := by omega
  have k2 : min (min n n2) 2000 ≤ n2 := by omega
  exact adds_walk a a2 n cap n2 cap2 _ _ (min (min n n2) 2000) w rfl k1 k2 (by omega) h1 h3 h2 h4 (hr.take _ k1) (hr2.take _ k2) ht
end Go.Proofs.YtkplkfhkablelaaDoor
