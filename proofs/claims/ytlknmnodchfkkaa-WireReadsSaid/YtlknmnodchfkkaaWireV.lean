/-
  The law WireReads: the walk.
-/
import Derived.Test.YtlknmnodchfkkaaWireU
import Derived.Deep.DeepCutAuto
namespace Go.Proofs.Ytlknmnodchfkkaa
open Go.ChangeShapes Go.WideShapes Go.ChangeAt Go.RowKit
set_option linter.unusedVariables false

theorem own_some {w : World} {base n : Nat} {e : TypeId} {v : Value} {xs : List Value} (h : w.ownsRow base e 1 v n xs) (hv : v ≠ .slice none 0 0) :
    ∃ g cap, v = .slice (some ⟨g, 0, none⟩) n cap ∧ base ≤ g := by
  rcases h.2 with ⟨h2, _⟩ | ⟨g, cap, cur, rfl, hb, r⟩
  · exact absurd h2 hv
  · exact ⟨g, cap, rfl, hb⟩
theorem bytes_own {w : World} {base n g cap : Nat} {l : List Nat} (h : w.ownsRow base 5 1 (.slice (some ⟨g, 0, none⟩) n cap) n (vals l)) (hn : n ≤ 7000) (hl : ∀ c ∈ l, c < 256) (hln : l.length = n) : Bytes w (some ⟨g, 0, none⟩) n cap l := by
  obtain ⟨a, cap', hv, hb, _⟩ := bytes_of_own' h hl hln.symm hn
  injection hv with h1 h2 h3
  subst h1 h3
  exact hb.out
/-- both readers, opened -/
def Opened (w : World) (g p q n : Nat) (l : List Nat) : Prop :=
  (∃ a3 cap3, w.heap[p]? = some (.cells #[.slice a3 n cap3, .int .i64 0] 52) ∧ Bytes w a3 n cap3 l ∧ ∀ x, a3 = some x → x.block ≠ p ∧ x.block ≠ g) ∧ p ≠ g ∧ q ≠ g ∧ RefAt w q (bstr l) 0

theorem own_lt {w : World} {base n g cap : Nat} {e : TypeId} {xs : List Value} (h : w.ownsRow base e 1 (.slice (some ⟨g, 0, none⟩) n cap) n xs) : g < w.heap.size := (h.lt g rfl).2
theorem openedA {w w5 : World} {g p n : Nat} {l : List Nat} (hf : ∃ a3 cap3, w5.heap[p]? = some (.cells #[.slice a3 n cap3, .int .i64 0] 52) ∧ Bytes w5 a3 n cap3 l ∧ ∀ x, a3 = some x → w.drew.heap.size ≤ x.block ∧ x.block ≠ p) (hp : w.drew.heap.size ≤ p) (hg : g < w.heap.size) :
    Opened (w5.alloc (.cells #[.string (bstr l), .int .i64 0] 40)) g p w5.heap.size n l := by
  have hp' : w.heap.size ≤ p := hp
  obtain ⟨a3, cap3, h1, h2, h3⟩ := hf
  have hpl := InAt.lt ⟨a3, n, cap3, h1, h2, fun x hx => (h3 x hx).2⟩
  refine ⟨⟨a3, cap3, by rw [Below.heap_alloc _ _ _ hpl]; exact h1, h2.below (Below.alloc' (Below.refl _ _) _), fun x hx => ⟨(h3 x hx).2, ?_⟩⟩, by omega, by omega, ?_⟩
  · have h4 : w.heap.size ≤ x.block := (h3 x hx).1
    omega
  · show (w5.heap.push _)[w5.heap.size]? = _
    simp
theorem openedB {w w5 : World} {g p n : Nat} {l : List Nat} (hf : ∃ a3 cap3, w5.heap[p]? = some (.cells #[.slice a3 n cap3, .int .i64 0] 52) ∧ Bytes w5 a3 n cap3 l ∧ ∀ x, a3 = some x → (w.alloc (.cells #[.string (bstr l), .int .i64 0] 40)).drew.heap.size ≤ x.block ∧ x.block ≠ p)
    (hp : (w.alloc (.cells #[.string (bstr l), .int .i64 0] 40)).drew.heap.size ≤ p) (hb : Below (w.alloc (.cells #[.string (bstr l), .int .i64 0] 40)).drew.heap.size (w.alloc (.cells #[.string (bstr l), .int .i64 0] 40)).drew w5) (hg : g < w.heap.size) :
    Opened w5 g p w.heap.size n l := by
  have e : (w.alloc (.cells #[.string (bstr l), .int .i64 0] 40)).drew.heap.size = w.heap.size + 1 := by
    show (w.heap.push _).size = _
    simp
  obtain ⟨a3, cap3, h1, h2, h3⟩ := hf
  rw [e] at hp
  refine ⟨⟨a3, cap3, h1, h2, fun x hx => ⟨(h3 x hx).2, ?_⟩⟩, by omega, by omega, ?_⟩
  · have h4 := (h3 x hx).1
    rw [e] at h4
    omega
  · unfold RefAt
    rw [hb.block w.heap.size (by rw [e]; omega)]
    show (w.heap.push _)[w.heap.size]? = _
    simp

theorem own_cell {w : World} {base n g cap k : Nat} {e : TypeId} {xs : List Value} (h : w.ownsRow base e 1 (.slice (some ⟨g, 0, none⟩) n cap) n xs) (hk : k < n) : ∃ v, w.cell? ⟨g, k, none⟩ = some v := by
  have hl := h.1
  have hc := h.cellAt k (by omega)
  rw [List.getElem?_eq_getElem (by omega)] at hc
  exact ⟨_, hc⟩
theorem Bytes.grown {w w' : World} {a : Option Addr} {len cap g : Nat} {l : List Nat} (h : Bytes w a len cap l) (hg : w.grownBy w' (some g)) (hx : ∀ x, a = some x → x.block ≠ g) : Bytes w' a len cap l := ⟨h.1.grown hg (fun _ => hx), h.2⟩
theorem Opened.set {w : World} {g p q n : Nat} {l : List Nat} (h : Opened w g p q n l) (k : Nat) (v : Value) : Opened (w.setCell ⟨g, k, none⟩ v) g p q n l := by
  obtain ⟨⟨a3, cap3, h1, h2, h3⟩, h4, h5, h6⟩ := h
  refine ⟨⟨a3, cap3, ?_, h2.grown (grown_cell w g k v) (fun x hx => (h3 x hx).2), h3⟩, h4, h5, ?_⟩
  · rw [Below.heap_setCell w ⟨g, k, none⟩ v p h4]
    exact h1
  · unfold RefAt at *
    rw [Below.heap_setCell w ⟨g, k, none⟩ v q h5]
    exact h6
theorem Opened.inAt {w : World} {g p q n : Nat} {l : List Nat} (h : Opened w g p q n l) : InAt w p l 0 := by
  obtain ⟨⟨a3, cap3, h1, h2, h3⟩, _⟩ := h
  exact ⟨a3, n, cap3, h1, h2, fun x hx => (h3 x hx).1⟩
theorem bytesOf_bstr (l : List Nat) (h : ∀ c ∈ l, c < 256) : bytesOf (bstr l) = l := by
  unfold bytesOf bstr
  rw [List.toList_toArray, List.map_map]
  conv => rhs; rw [← List.map_id l]
  refine List.map_congr_left fun c hc => ?_
  exact u8_toNat c (h c hc)
theorem TakeRow.at_ {w : World} {a : Option Addr} {n : Nat} {ts : Nat → Int × Int × Int} (h : TakeRow w a n ts) {k : Nat} (hk : k < n) :
    ∃ b o, b < w.heap.size ∧ w.cell? ⟨b, o, none⟩ = some (.int .i64 (ts k).1) ∧ w.cell? ⟨b, o + 1, none⟩ = some (.int .i64 (ts k).2.1) ∧ w.cell? ⟨b, o + 2, none⟩ = some (.int .i64 (ts k).2.2) ∧
      ∀ (cap : Nat) (W : World), (Instr.indexAt 29 (.slice a n cap) (.int .i64 (k : Int))).run Try.prog W = .ok (.pointer (some ⟨b, o, none⟩)) W := by
  obtain ⟨_, h4⟩ := h
  obtain ⟨b, o, rfl, hc⟩ := h4 (by omega)
  obtain ⟨c0, c1, c2⟩ := hc k hk
  refine ⟨b, o + k * 3, cell_lt c0, c0, c1, c2, fun cap W => ?_⟩
  have h1 : (0 : Int) ≤ (k : Int) := by omega
  have h2 : (k : Int) < (n : Int) := by omega
  clear hc h4 c0 c1 c2
  go_simp

theorem quad (x : Int) : (wrap64 ((IntKind.u64.wrap x).tmod 4) == 0) = true ∨ ((wrap64 ((IntKind.u64.wrap x).tmod 4) == 0) = false ∧ (wrap64 ((IntKind.u64.wrap x).tmod 4) == 1) = true) ∨
    ((wrap64 ((IntKind.u64.wrap x).tmod 4) == 0) = false ∧ (wrap64 ((IntKind.u64.wrap x).tmod 4) == 1) = false ∧ (wrap64 ((IntKind.u64.wrap x).tmod 4) == 2) = true) ∨
    ((wrap64 ((IntKind.u64.wrap x).tmod 4) == 0) = false ∧ (wrap64 ((IntKind.u64.wrap x).tmod 4) == 1) = false ∧ (wrap64 ((IntKind.u64.wrap x).tmod 4) == 2) = false ∧ (wrap64 ((IntKind.u64.wrap x).tmod 4) == 3) = true) := by
  obtain ⟨q, hq, e⟩ := mod_cut x 4 (by decide) (by decide)
  have e' : wrap64 ((IntKind.u64.wrap x).tmod 4) = (q : Int) := e
  rw [e']
  have : q = 0 ∨ q = 1 ∨ q = 2 ∨ q = 3 := by omega
  rcases this with rfl | rfl | rfl | rfl <;> decide

/-- the call at hand, in its variable -/
def Took (w : World) (B : Nat) (x0 x1 x2 : Int) : Prop := w.heap[B]? = some (.cells #[.int .i64 x0, .int .i64 x1, .int .i64 x2] 42)
theorem Took.two {w : World} {B : Nat} {x0 x1 x2 : Int} (h : Took w B x0 x1 x2) : w.cell? ⟨B, 1, none⟩ = some (.int .i64 x1) ∧ w.cell? ⟨B, 2, none⟩ = some (.int .i64 x2) := by
  unfold Took at h
  constructor <;> simp [World.cell?, h]
theorem Took.lt {w : World} {B : Nat} {x0 x1 x2 : Int} (h : Took w B x0 x1 x2) : B < w.heap.size := by
  unfold Took at h
  rcases Nat.lt_or_ge B w.heap.size with g | g
  · exact g
  · rw [Array.getElem?_eq_none g] at h
    cases h
theorem Took.grown {w w' : World} {B p : Nat} {x0 x1 x2 : Int} (h : Took w B x0 x1 x2) (hg : w.grownBy w' (some p)) (hp : p ≠ B) : Took w' B x0 x1 x2 := by
  have hl := h.lt
  unfold Took at *
  rw [hg.block B hl (by simpa using fun e => hp e.symm)]
  exact h
theorem taken (w : World) (x0 x1 x2 : Int) : Took (w.alloc (.cells #[.int .i64 x0, .int .i64 x1, .int .i64 x2] 42)) w.heap.size x0 x1 x2 ∧ True ∧ True := by
  refine ⟨?_, trivial, trivial⟩
  show (w.heap.push _)[w.heap.size]? = _
  simp
theorem RefAt.lt {w : World} {q : Nat} {s : ByteArray} {e : Int} (r : RefAt w q s e) : q < w.heap.size := by
  unfold RefAt at r
  rcases Nat.lt_or_ge q w.heap.size with h | h
  · exact h
  · rw [Array.getElem?_eq_none h] at r
    cases r
theorem RefAt.below {w w' : World} {q : Nat} {s : ByteArray} {e : Int} (r : RefAt w q s e) (hb : Below w.heap.size w w') : RefAt w' q s e := by
  have hl := r.lt
  unfold RefAt at *
  rw [hb.block q hl]
  exact r
theorem InAt.len {w : World} {p : Nat} {l : List Nat} {e : Int} (h : InAt w p l e) : l.length ≤ maxLen := by
  obtain ⟨a, len, cap, _, h2, _⟩ := h
  rw [h2.1.1]
  exact h2.1.2.1
theorem InAt.drew {w : World} {p : Nat} {l : List Nat} {e : Int} (h : InAt w p l e) : InAt w.drew p l e := h.below (Below.drew (Below.refl _ _))
theorem grown_undrew {w w1 : World} {r : Option Nat} (h : w.drew.grownBy w1 r) : w.grownBy w1 r := ⟨h.os, h.tape, h.output, h.size, h.block⟩

theorem size_grow (w : World) (o : Obj) : w.heap.size ≤ (w.alloc o).drew.heap.size := by
  show w.heap.size ≤ (w.heap.push o).size
  simp
theorem RefAt.drewK {w : World} {q : Nat} {s : ByteArray} {e : Int} (h : RefAt w q s e) (n : Nat) : RefAt (w.drewN n) q s e := h.below (below_drewN w n)
theorem Below.two {w w1 w2 w3 : World} {p q : Nat} (h : Below w.heap.size w w1) (g1 : w1.grownBy w2 (some p)) (g2 : w2.grownBy w3 (some q)) (hp : w.heap.size ≤ p) (hq : w.heap.size ≤ q) : Below w.heap.size w w3 :=
  (h.grown g1 h.size (fun k hk => by cases hk; exact hp)).grown g2 (Nat.le_trans h.size g1.size) (fun k hk => by cases hk; exact hq)

set_option maxRecDepth 100000 in
theorem reads_long (a a2 : Option Addr) (n cap n2 cap2 : Nat) (w : World) (hn : 3000 < n) :
    Calls Try.prog 4 #[.slice a n cap, .slice a2 n2 cap2] w fun e w' => e = .returned (.bool true) ∧ Below w.heap.size w w' := by
  have HB := Lib.hid (Below.refl w.heap.size w)
  go_enter Try.func4, Try.ntmps4
  go_wp2_with (first
    | (go_at_call 8; refine (wires_any _).mono ?_; rintro e3 w3 ⟨rfl, hb⟩; have HB := Lib.hid (Below.step hb HB.out); clear hb)
    | (go_at_call 13; refine (none_any _).mono ?_; rintro e3 w3 ⟨rfl, rfl⟩)
    | (go_at_call 14; refine (fail_nil _ _).mono ?_; rintro e3 w3 ⟨rfl, rfl⟩)
    | (go_at_call 15; refine (inNum_nil _ _ _).mono ?_; rintro e3 w3 ⟨rfl, rfl⟩)
    | (go_at_call 16; refine (err_nil _).mono ?_; rintro e3 w3 ⟨rfl, rfl⟩)
    | (go_at_call 17; refine (end_nil _).mono ?_; rintro e3 w3 ⟨rfl, rfl⟩)
    | (go_at_call 18; refine (left_nil _).mono ?_; rintro e3 w3 ⟨rfl, rfl⟩)
    | (go_at_call 19; refine (inStr_nil _ _).mono ?_; rintro e3 w3 ⟨rfl, rfl⟩))
  go_ret
  exact ⟨rfl, HB.out⟩

set_option maxRecDepth 100000 in
set_option maxHeartbeats 8000000 in
theorem reads_walk (a a2 : Option Addr) (n cap n2 cap2 : Nat) (l : List Nat) (ts : Nat → Int × Int × Int) (w : World) (hn : n ≤ 3000) (hy : Bytes w a n cap l) (ht : TakeRow w a2 n2 ts) :
    Calls Try.prog 4 #[.slice a n cap, .slice a2 n2 cap2] w fun e w' => e = .returned (.bool true) ∧ Below w.heap.size w w' := by
  obtain ⟨i0, hi, hz0, hz1, hz2⟩ := info_parts info5
  have HB := Lib.hid (Below.refl w.heap.size w)
  have HY := Lib.hid hy
  have HT := Lib.hid ht
  clear hy ht
  go_enter Try.func4, Try.ntmps4
  go_wp2_with (first
    | (go_at_call 8; refine (wires_any _).mono ?_; rintro e3 w3 ⟨rfl, hb⟩; have HB := Lib.hid (Below.step hb HB.out); clear hb)
    | (go_at_call 13; refine (none_any _).mono ?_; rintro e3 w3 ⟨rfl, rfl⟩)
    | (go_at_call 14; refine (fail_nil _ _).mono ?_; rintro e3 w3 ⟨rfl, rfl⟩)
    | (go_at_call 15; refine (inNum_nil _ _ _).mono ?_; rintro e3 w3 ⟨rfl, rfl⟩)
    | (go_at_call 16; refine (err_nil _).mono ?_; rintro e3 w3 ⟨rfl, rfl⟩)
    | (go_at_call 17; refine (end_nil _).mono ?_; rintro e3 w3 ⟨rfl, rfl⟩)
    | (go_at_call 18; refine (left_nil _).mono ?_; rintro e3 w3 ⟨rfl, rfl⟩)
    | (go_at_call 19; refine (inStr_nil _ _).mono ?_; rintro e3 w3 ⟨rfl, rfl⟩)
    | (at_builtin; refine wpList_append_bytes rfl (.tmp 52) (.tmp 53) 23 rfl w.heap.size 5 i0 (.int .u8 0) Try.underlying23 hi hz0 hz1 hz2 rfl _ 0 [] rfl (own_empty _ w.heap.size HB.out.size) a n cap (vals l) rfl HY.out.2.2.2 ?c1 ?c2 (vals_one _) ?c3 ?c4 ?_))
  case c1 => rw [vals_length]; exact HY.out.1.1
  case c2 => exact (HY.out.1.below (Below.alloc' HB.out _)).news
  case c3 => omega
  case c4 => have := HB.out.size; simp; omega
  intro v' w4 hown hgrow hne
  have HB4 : Hid (Below w.heap.size w w4) := Lib.hid ((Below.alloc' HB.out _).grown hgrow (by have := HB.out.size; simp; omega) (fun k hk => by cases hk; exact HB.out.size))
  obtain ⟨g, capg, rfl, hg⟩ := own_some hown hne
  have HO := Lib.hid hown
  have HG := Lib.hid hg
  clear hown hgrow hne hg HB
  go_wp2_with fail
  have hcv : ∀ W, Below w4.heap.size w4 W → (convert 23 9 (.slice a n cap)).run Try.prog W = .ok (.string (bstr l)) W := fun W hB => conv_all cap ((HY.out.below (Below.step hB HB4.out)).1)
  have b0 := Below.refl w4.heap.size w4
  have HYG := Lib.hid (bytes_own HO.out (by omega) HY.out.1.2.2.1 HY.out.1.1)
  go_cut [6, 7] (fun v6 v7 wx => ∃ p q, v6 = .pointer (some ⟨p, 0, none⟩) ∧ v7 = .pointer (some ⟨q, 0, none⟩) ∧ Hid (Opened wx g p q n l) ∧ Hid (w4.heap.size ≤ p ∧ w4.heap.size ≤ q) ∧ Below w4.heap.size w4 wx)
  case first =>
    go_region_held3 (fun w' => Below w4.heap.size w4 w') (with_reducible first | assumption | exact Below.drew b0 | exact Below.alloc' b0 _ | exact Below.drew (Below.alloc' b0 _) | exact Below.alloc' hbb _ | exact Below.drew hbb)
      (first
        | (go_at_call 20; with_reducible refine (open_far _ _ _ l _ (HYG.out.below (by with_reducible first | assumption | exact Below.drew b0 | exact Below.alloc' b0 _ | exact Below.drew (Below.alloc' b0 _) | exact Below.alloc' (Below.drew b0) _)) (by omega)).mono ?_; rintro e5 w5 ⟨p, rfl, hf, hp, hb⟩; have HF := Lib.hid hf; have HP := Lib.hid hp; have hbb := Below.step hb (by with_reducible first | assumption | exact Below.drew b0 | exact Below.alloc' b0 _ | exact Below.drew (Below.alloc' b0 _) | exact Below.alloc' (Below.drew b0) _); have HBB := Lib.hid hb; clear hf hp hb))
    all_goals go_wp2_with fail
    · go_meet
      exact ⟨p, _, rfl, rfl, Lib.hid (openedA HF.out HP.out (own_lt HO.out)), Lib.hid ⟨HP.out, hbb.size⟩, Below.alloc' hbb _⟩
    · go_meet
      exact ⟨p, _, rfl, rfl, Lib.hid (openedB HF.out HP.out HBB.out (own_lt HO.out)), Lib.hid ⟨Nat.le_trans (size_grow w4 _) HP.out, Nat.le_refl _⟩, hbb⟩
  case rest =>
    obtain ⟨p, q, rfl, rfl, HOP, HPQ4, hb6⟩ := hcut
    have HPQ : Hid (w.heap.size ≤ p ∧ w.heap.size ≤ q) := Lib.hid ⟨Nat.le_trans HB4.out.size HPQ4.out.1, Nat.le_trans HB4.out.size HPQ4.out.2⟩
    have HB6 := Lib.hid (Below.step hb6 HB4.out)
    have HO6 := Lib.hid (ownsRow_below HO.out hb6)
    clear hb6 HO HB4 hcv b0 HYG
    go_wp2_with fail
    go_loopw [8] (fun i wr => ∃ (k : Nat) (xs : List Value), i = .int .i64 k ∧ k ≤ n ∧ wr.ownsRow w.heap.size 5 1 (.slice (some ⟨g, 0, none⟩) n capg) n xs ∧ Hid (Opened wr g p q n l) ∧ Below w.heap.size w wr) (fun i _ => n - (intOf i).toNat)
    case atStart => exact ⟨0, _, rfl, Nat.zero_le _, HO6.out, HOP, HB6.out⟩
    case round =>
      obtain ⟨k, xs, rfl, hk, ho, HOP7, hb⟩ := hrel
      have HO7 := Lib.hid ho
      have HB7 := Lib.hid hb
      clear ho hb HOP HO6 HB6
      by_cases gk : k < n
      · obtain ⟨v, hv⟩ := own_cell HO7.out gk
        have hfr := HO7.out.frozenAt k
        go_wp2_with fail
        go_roundw
        case rel => exact ⟨k + 1, _, by go_num, by omega, (HO7.out.stored k _).1, Lib.hid (HOP7.out.set k _), HB7.out.setCell HG.out _⟩
        case measure => simp [intOf]; omega
      · go_wp2_with fail
        obtain ⟨wa, rfl⟩ : ∃ wa : World, wa = wr := ⟨_, rfl⟩
        go_loopw [9] (fun i wr => ∃ (k : Nat) (l : List Nat) (s : ByteArray) (e : Int), i = .int .i64 k ∧ k ≤ 60 ∧ InAt wr p l e ∧ RefAt wr q s e ∧ Hid (bytesOf s = l) ∧ Below w.heap.size w wr) (fun i _ => 60 - (intOf i).toNat)
        case atStart => exact ⟨0, l, bstr l, 0, rfl, by omega, HOP7.out.inAt, HOP7.out.2.2.2, Lib.hid (bytesOf_bstr l HY.out.1.2.2.1), HB7.out⟩
        case round =>
          obtain ⟨k, l2, s, e, rfl, hk60, hi8, hr8, HL8, hb8⟩ := hrel
          have HI8 := Lib.hid hi8
          have HR8 := Lib.hid hr8
          have HB8 := Lib.hid hb8
          clear hi8 hr8 hb8 HOP7 HO7 HB7
          by_cases g1 : k < n2
          · by_cases g2 : k < 60
            · obtain ⟨b, o, hbw, hc0, hc1, hc2, hix⟩ := HT.out.at_ g1
              have hix1 := hix cap2
              have hd0 := (HB8.out.cell hbw).trans hc0
              have hd1 := (HB8.out.cell (p := ⟨b, _, none⟩) hbw).trans hc1
              have hd2 := (HB8.out.cell (p := ⟨b, _, none⟩) hbw).trans hc2
              clear hix hc0 hc1 hc2
              generalize (ts k).1 = x0 at *
              generalize (ts k).2.1 = x1 at *
              generalize (ts k).2.2 = x2 at *
              obtain ⟨v1, v2, v3⟩ := taken wr x0 x1 x2
              have HT1 := Lib.hid v1
              have HI9 := Lib.hid (HI8.out.below (Below.alloc' (Below.refl _ wr) (.cells #[.int .i64 x0, .int .i64 x1, .int .i64 x2] 42)))
              have HR9 := Lib.hid (HR8.out.below (Below.alloc' (Below.refl _ wr) (.cells #[.int .i64 x0, .int .i64 x1, .int .i64 x2] 42)))
              have HB9 := Lib.hid (Below.alloc' HB8.out (.cells #[.int .i64 x0, .int .i64 x1, .int .i64 x2] 42))
              have HP9 : Hid (w.heap.size ≤ p ∧ w.heap.size ≤ q) := HPQ
              have hne : Hid (p ≠ wr.heap.size ∧ q ≠ wr.heap.size) := Lib.hid ⟨by have := HI8.out.lt; omega, by have := HR8.out.lt; omega⟩
              have HZ : Hid (s.size ≤ maxLen) := Lib.hid (by rw [← bytesOf_length, HL8.out]; exact HI8.out.len)
              rcases quad x0 with t0 | ⟨t0, t1⟩ | ⟨t0, t1, t2⟩ | ⟨t0, t1, t2, t3⟩
              · go_wp2_with fail
                clear t0 hd0 hd1 hd2 hix1
                generalize wr.alloc (.cells #[.int .i64 x0, .int .i64 x1, .int .i64 x2] 42) = wt at *
                generalize hr : readNum x1 x2 l2 e = r at *
                obtain ⟨rv, l9, e9⟩ := r
                have hn1 : ∀ W, InAt W p l2 e → Calls Try.prog 15 #[.pointer (some ⟨p, 0, none⟩), .int .i64 x1, .int .i64 x2] W fun e' w' => e' = .returned (.int .i64 rv) ∧ InAt w' p l9 e9 ∧ W.grownBy w' (some p) := fun W h => by
                  have h := inNum_only p x1 x2 l2 e W h
                  rw [hr] at h
                  exact h
                have hn2 : ∀ W, RefAt W q s e → Calls Try.prog 21 #[.pointer (some ⟨q, 0, none⟩), .int .i64 x1, .int .i64 x2] W fun e' w' => e' = .returned (.int .i64 rv) ∧ (∃ s', bytesOf s' = l9 ∧ RefAt w' q s' e9) ∧ W.grownBy w' (some q) := fun W h => by
                  have h := refIn_any q x1 x2 s e W h HZ.out
                  rw [HL8.out, hr] at h
                  exact h
                have HN1 := Lib.hid hn1
                have HN2 := Lib.hid hn2
                clear hn1 hn2 hr
                have hS0 := HT1.out.two
                go_region_held3 (fun w' => w'.cell? ⟨wr.heap.size, 1, none⟩ = some (.int .i64 x1) ∧ w'.cell? ⟨wr.heap.size, 2, none⟩ = some (.int .i64 x2)) (first | exact hS0 | exact hS1 | exact hS2)
                  (first
                    | (go_at_call 15; with_reducible refine (HN1.out _ HI9.out.drew).mono ?_; rintro e5 w5 ⟨rfl, hi, hg⟩; have HI10 := Lib.hid hi; have HG10 := Lib.hid (grown_undrew hg); have hS1 := ((HT1.out).grown HG10.out hne.out.1).two; clear hi hg)
                    | (go_at_call 21; with_reducible refine (HN2.out _ (HR9.out.beside HI9.out HG10.out)).mono ?_; rintro e6 w6 ⟨rfl, ⟨s9, hl9, hr9⟩, hg⟩; have HR11 := Lib.hid hr9; have HL11 := Lib.hid hl9; have HG11 := Lib.hid hg; have hS2 := ((HT1.out.grown HG10.out hne.out.1).grown HG11.out hne.out.2).two; clear hr9 hl9 hg))
                go_wp2_with fail
                have HIE := Lib.hid (HI10.out.beside (HR9.out.beside HI9.out HG10.out) HG11.out)
                have HRE := HR11
                have HLE := HL11
                have HBE := Lib.hid (Below.two HB9.out HG10.out HG11.out HP9.out.1 HP9.out.2)
                obtain ⟨kc0, kc1, kf0, kf1⟩ := HRE.out.cells
                go_quiet ((go_at_call 16; exact Calls.quiet_of_same ((err_any p l9 e9 _ (HIE.out.drewK _)).mono fun e w' h => ⟨h.1, h.2.symm⟩)))
                go_wp2
                go_roundw
                case rel => exact ⟨k + 1, l9, s9, e9, by go_num, by omega, HIE.out.drewK _, HRE.out.drewK _, HLE, Below.drewK HBE.out _⟩
                case measure => simp [intOf]; omega
              · go_wp2_with fail
                clear t0 t1 hd0 hd1 hd2 hix1
                generalize wr.alloc (.cells #[.int .i64 x0, .int .i64 x1, .int .i64 x2] 42) = wt at *
                generalize hr : readStr x1 l2 e = r at *
                obtain ⟨rv, l9, e9⟩ := r
                have hn1 : ∀ W, InAt W p l2 e → Calls Try.prog 19 #[.pointer (some ⟨p, 0, none⟩), .int .i64 x1] W fun e' w' => e' = .returned (.string (bstr rv)) ∧ InAt w' p l9 e9 ∧ W.grownBy w' (some p) := fun W h => by
                  have h := inStr_only p x1 l2 e W h
                  rw [hr] at h
                  exact h
                have hn2 : ∀ W, RefAt W q s e → Calls Try.prog 22 #[.pointer (some ⟨q, 0, none⟩), .int .i64 x1] W fun e' w' => e' = .returned (.string (bstr rv)) ∧ (∃ s', bytesOf s' = l9 ∧ RefAt w' q s' e9) ∧ W.grownBy w' (some q) := fun W h => by
                  have h := refStrIn_any q x1 s e W h HZ.out
                  rw [HL8.out, hr] at h
                  exact h
                have HN1 := Lib.hid hn1
                have HN2 := Lib.hid hn2
                clear hn1 hn2 hr
                generalize bstr rv = rs at *
                have hS0 := HT1.out.two.1
                go_region_held3 (fun w' => w'.cell? ⟨wr.heap.size, 1, none⟩ = some (.int .i64 x1)) (first | exact hS0 | exact hS1 | exact hS2)
                  (first
                    | (go_at_call 19; with_reducible refine (HN1.out _ HI9.out.drew).mono ?_; rintro e5 w5 ⟨rfl, hi, hg⟩; have HI10 := Lib.hid hi; have HG10 := Lib.hid (grown_undrew hg); have hS1 := ((HT1.out).grown HG10.out hne.out.1).two.1; clear hi hg)
                    | (go_at_call 22; with_reducible refine (HN2.out _ (HR9.out.beside HI9.out HG10.out)).mono ?_; rintro e6 w6 ⟨rfl, ⟨s9, hl9, hr9⟩, hg⟩; have HR11 := Lib.hid hr9; have HL11 := Lib.hid hl9; have HG11 := Lib.hid hg; have hS2 := ((HT1.out.grown HG10.out hne.out.1).grown HG11.out hne.out.2).two.1; clear hr9 hl9 hg))
                go_wp2_with fail
                have HIE := Lib.hid (HI10.out.beside (HR9.out.beside HI9.out HG10.out) HG11.out)
                have HRE := HR11
                have HLE := HL11
                have HBE := Lib.hid (Below.two HB9.out HG10.out HG11.out HP9.out.1 HP9.out.2)
                obtain ⟨kc0, kc1, kf0, kf1⟩ := HRE.out.cells
                go_quiet ((go_at_call 16; exact Calls.quiet_of_same ((err_any p l9 e9 _ (HIE.out.drewK _)).mono fun e w' h => ⟨h.1, h.2.symm⟩)))
                go_wp2
                go_roundw
                case rel => exact ⟨k + 1, l9, s9, e9, by go_num, by omega, HIE.out.drewK _, HRE.out.drewK _, HLE, Below.drewK HBE.out _⟩
                case measure => simp [intOf]; omega
              · by_cases he : e = 0
                · subst he
                  go_wp2_with fail
                  clear t0 t1 t2 hd0 hd1 hd2 hix1
                  generalize wr.alloc (.cells #[.int .i64 x0, .int .i64 x1, .int .i64 x2] 42) = wt at *
                  generalize wrap64 (1 + wrap64 ((IntKind.u64.wrap x1).tmod 18)) = X at *
                  refine (fail_only p l2 0 X _ HI9.out).mono ?_
                  rintro e5 w5 ⟨rfl, hi, hg⟩
                  have HI10 : Hid (InAt w5 p l2 X) := Lib.hid (by have h := hi; unfold failE at h; rw [if_pos rfl] at h; exact h)
                  have HR10 := Lib.hid (HR9.out.beside HI9.out hg)
                  have HG10 := Lib.hid hg
                  clear hi hg
                  obtain ⟨kd0, kd1, kf2, kf3⟩ := HR10.out.cells
                  go_wp2_with fail
                  clear kd0 kd1 kf2 kf3
                  have HIE := Lib.hid (HI10.out.beside HR10.out (grown_cell _ q 1 (.int .i64 X)))
                  have HRE := Lib.hid (set1 HR10.out (e' := X))
                  have HLE := HL8
                  have HBE := Lib.hid (Below.two HB9.out HG10.out (grown_cell _ q 1 (.int .i64 X)) HP9.out.1 HP9.out.2)
                  generalize w5.setCell ⟨q, 1, none⟩ (.int .i64 X) = wu at *
                  obtain ⟨kc0, kc1, kf0, kf1⟩ := HRE.out.cells
                  go_quiet ((go_at_call 16; exact Calls.quiet_of_same ((err_any p l2 (X) _ (HIE.out.drewK _)).mono fun e w' h => ⟨h.1, h.2.symm⟩)))
                  go_wp2
                  go_roundw
                  case rel => exact ⟨k + 1, l2, s, X, by go_num, by omega, HIE.out.drewK _, HRE.out.drewK _, HLE, Below.drewK HBE.out _⟩
                  case measure => simp [intOf]; omega
                · have heb : (e == 0) = false := by rw [beq_eq_false_iff_ne]; exact he
                  go_wp2_with fail
                  clear t0 t1 t2 hd0 hd1 hd2 hix1
                  generalize wr.alloc (.cells #[.int .i64 x0, .int .i64 x1, .int .i64 x2] 42) = wt at *
                  generalize wrap64 (1 + wrap64 ((IntKind.u64.wrap x1).tmod 18)) = X at *
                  refine (fail_only p l2 e X _ HI9.out).mono ?_
                  rintro e5 w5 ⟨rfl, hi, hg⟩
                  have HIE : Hid (InAt w5 p l2 e) := Lib.hid (by have h := hi; unfold failE at h; rw [if_neg he] at h; exact h)
                  have HRE := Lib.hid (HR9.out.beside HI9.out hg)
                  have HBE := Lib.hid (HB9.out.grown hg HB9.out.size (fun k hk => by cases hk; exact HP9.out.1))
                  have HLE := HL8
                  clear hi hg he
                  obtain ⟨kd0, kd1, kf2, kf3⟩ := HRE.out.cells
                  go_wp2_with fail
                  clear kd0 kd1 kf2 kf3
                  obtain ⟨kc0, kc1, kf0, kf1⟩ := HRE.out.cells
                  go_quiet ((go_at_call 16; exact Calls.quiet_of_same ((err_any p l2 (e) _ (HIE.out.drewK _)).mono fun e w' h => ⟨h.1, h.2.symm⟩)))
                  go_wp2
                  go_roundw
                  case rel => exact ⟨k + 1, l2, s, e, by go_num, by omega, HIE.out.drewK _, HRE.out.drewK _, HLE, Below.drewK HBE.out _⟩
                  case measure => simp [intOf]; omega
              · have hlen : Hid (l2.length = s.size) := Lib.hid (by rw [← HL8.out, bytesOf_length])
                go_wp2_with fail
                clear t0 t1 t2 t3 hd0 hd1 hd2 hix1
                generalize wr.alloc (.cells #[.int .i64 x0, .int .i64 x1, .int .i64 x2] 42) = wt at *
                have hleft : ∀ W, InAt W p l2 e → Calls Try.prog 18 #[.pointer (some ⟨p, 0, none⟩)] W fun e' w' => e' = .returned (.int .i64 (s.size : Int)) ∧ w' = W := fun W h => by
                  refine (left_any p l2 e W h).mono ?_
                  rintro e' w' ⟨rfl, rfl⟩
                  exact ⟨ret_int (by rw [hlen.out]), rfl⟩
                have HLF := Lib.hid hleft
                clear hleft
                obtain ⟨kc0, kc1, kf0, kf1⟩ := HR9.out.cells
                go_quiet ((go_at_call 18; exact Calls.quiet_of_same (HLF.out _ (HI9.out.drewK _))))
                go_wp2_with fail
                clear kc0 kc1 kf0 kf1
                have HIE := Lib.hid (HI9.out.drewK nq)
                have HRE := Lib.hid (HR9.out.drewK nq)
                have HLE := HL8
                have HBE := Lib.hid (Below.drewK HB9.out nq)
                generalize wt.drewN nq = wu at *
                obtain ⟨kc0, kc1, kf0, kf1⟩ := HRE.out.cells
                go_quiet ((go_at_call 16; exact Calls.quiet_of_same ((err_any p l2 (e) _ (HIE.out.drewK _)).mono fun e w' h => ⟨h.1, h.2.symm⟩)))
                go_wp2
                go_roundw
                case rel => exact ⟨k + 1, l2, s, e, by go_num, by omega, HIE.out.drewK _, HRE.out.drewK _, HLE, Below.drewK HBE.out _⟩
                case measure => simp [intOf]; omega
            · go_wp2_with fail
              have he1 : ∀ W, InAt W p l2 e → Calls Try.prog 17 #[.pointer (some ⟨p, 0, none⟩)] W fun e' w' => e' = .returned (.int .i64 (endE l2 e)) ∧ InAt w' p l2 (endE l2 e) ∧ W.grownBy w' (some p) := fun W h => end_only p l2 e W h
              have he2 : ∀ W, RefAt W q s e → Calls Try.prog 23 #[.pointer (some ⟨q, 0, none⟩)] W fun e' w' => e' = .returned (.int .i64 (endE l2 e)) ∧ RefAt w' q s (endE l2 e) ∧ W.grownBy w' (some q) := fun W h => by
                have h := refEnd_any q s e W h
                rw [HL8.out] at h
                exact h
              have HE1 := Lib.hid he1
              have HE2 := Lib.hid he2
              clear he1 he2 hi hz0 hz1 hz2 HT HY HG HL8 hn hk60
              generalize endE l2 e = E at *
              go_cut [4] (fun v wx => v = .bool true ∧ Hid (Below w.heap.size w wx))
              case first =>
                go_region_with (first
                  | (go_at_call 17; with_reducible refine (HE1.out _ HI8.out.drew).mono ?_; rintro e5 w5 ⟨rfl, hi, hg⟩; have HI10 := Lib.hid hi; have HG10 := Lib.hid (grown_undrew hg); clear hi hg)
                  | (go_at_call 23; with_reducible refine (HE2.out _ (HR8.out.beside HI8.out HG10.out)).mono ?_; rintro e6 w6 ⟨rfl, hr, hg⟩; have HR11 := Lib.hid hr; have HG11 := Lib.hid hg; have HI11 := Lib.hid (HI10.out.beside (HR8.out.beside HI8.out HG10.out) HG11.out); obtain ⟨kc0, kc1, kf0, kf1⟩ := HR11.out.cells; clear hr hg)
                  | (go_at_call 16; with_reducible refine (err_any p l2 E _ HI11.out).mono ?_; rintro e7 w7 ⟨rfl, rfl⟩))
                all_goals go_wp2_with fail
                all_goals go_meet
                all_goals exact ⟨rfl, Lib.hid (Below.two HB8.out HG10.out HG11.out HPQ.out.1 HPQ.out.2)⟩
              case rest =>
                obtain ⟨rfl, hb⟩ := hcut
                go_wp2_with fail
                go_ret
                exact ⟨rfl, hb.out⟩
          · go_wp2_with fail
            have he1 : ∀ W, InAt W p l2 e → Calls Try.prog 17 #[.pointer (some ⟨p, 0, none⟩)] W fun e' w' => e' = .returned (.int .i64 (endE l2 e)) ∧ InAt w' p l2 (endE l2 e) ∧ W.grownBy w' (some p) := fun W h => end_only p l2 e W h
            have he2 : ∀ W, RefAt W q s e → Calls Try.prog 23 #[.pointer (some ⟨q, 0, none⟩)] W fun e' w' => e' = .returned (.int .i64 (endE l2 e)) ∧ RefAt w' q s (endE l2 e) ∧ W.grownBy w' (some q) := fun W h => by
              have h := refEnd_any q s e W h
              rw [HL8.out] at h
              exact h
            have HE1 := Lib.hid he1
            have HE2 := Lib.hid he2
            clear he1 he2 hi hz0 hz1 hz2 HT HY HG HL8 hn hk60
            generalize endE l2 e = E at *
            go_cut [4] (fun v wx => v = .bool true ∧ Hid (Below w.heap.size w wx))
            case first =>
              go_region_with (first
                | (go_at_call 17; with_reducible refine (HE1.out _ HI8.out.drew).mono ?_; rintro e5 w5 ⟨rfl, hi, hg⟩; have HI10 := Lib.hid hi; have HG10 := Lib.hid (grown_undrew hg); clear hi hg)
                | (go_at_call 23; with_reducible refine (HE2.out _ (HR8.out.beside HI8.out HG10.out)).mono ?_; rintro e6 w6 ⟨rfl, hr, hg⟩; have HR11 := Lib.hid hr; have HG11 := Lib.hid hg; have HI11 := Lib.hid (HI10.out.beside (HR8.out.beside HI8.out HG10.out) HG11.out); obtain ⟨kc0, kc1, kf0, kf1⟩ := HR11.out.cells; clear hr hg)
                | (go_at_call 16; with_reducible refine (err_any p l2 E _ HI11.out).mono ?_; rintro e7 w7 ⟨rfl, rfl⟩))
              all_goals go_wp2_with fail
              all_goals go_meet
              all_goals exact ⟨rfl, Lib.hid (Below.two HB8.out HG10.out HG11.out HPQ.out.1 HPQ.out.2)⟩
            case rest =>
              obtain ⟨rfl, hb⟩ := hcut
              go_wp2_with fail
              go_ret
              exact ⟨rfl, hb.out⟩

theorem wireReads_law {H : Type} {enc : TypeId × Value → H} (a : Option Addr) (n cap : Nat) (zs : List Int) (a2 : Option Addr) (n2 cap2 : Nat) (w : World) (h1 : IsRow .u8 w a n cap zs) {d : DataW H} {p : List MemPlace} (h2 : DataW.Trod enc Try.prog w 0 (fun _ => true) true 29 (.slice a2 n2 cap2) d p) :
    Calls Try.prog 4 #[.slice a n cap, .slice a2 n2 cap2] w fun e w' => e = .returned (.bool true) ∧ Below w.heap.size w w' := by
  obtain ⟨l, hl⟩ := row_bytes' h1
  obtain ⟨ts, ht⟩ := takes_of h2
  by_cases hn : n ≤ 3000
  · exact reads_walk a a2 n cap n2 cap2 l ts w hn hl ht
  · exact reads_long a a2 n cap n2 cap2 w (by omega)

end Go.Proofs.Ytlknmnodchfkkaa
