/-
  Texts put together: WsB, WsC.
-/
import Derived.Test.YtcmnfbpmkndfkaaDoorMgG
import Derived.Deep.DeepCutAuto
import Derived.Deep.CutBlock
namespace Go.Proofs.YtcmnfbpmkndfkaaDoor
open Go.ChangeShapes Go.WideShapes Go.ChangeAt Go.RowKit Go.Deep
set_option linter.unusedVariables false
set_option maxRecDepth 100000

structure Spt where
  at_ : Int
  what : Int
  age : Int
  num : Int
  a : Option Addr
  n : Nat
  c : Nat
  L : List Nat
/-- spots that came in, all their cells -/
def Spts (w : World) (a : Option Addr) (n : Nat) (ts : Nat → Spt) : Prop :=
  n ≤ maxLen ∧ (0 < n → ∃ b o, a = some ⟨b, o, none⟩ ∧ ∀ i, i < n → (w.cell? ⟨b, o + i * 5, none⟩ = some (.int .i64 (ts i).at_) ∧ w.cell? ⟨b, o + i * 5 + 1, none⟩ = some (.int .i64 (ts i).what) ∧ w.cell? ⟨b, o + i * 5 + 2, none⟩ = some (.int .i64 (ts i).age) ∧ w.cell? ⟨b, o + i * 5 + 3, none⟩ = some (.int .i64 (ts i).num) ∧ w.cell? ⟨b, o + i * 5 + 4, none⟩ = some (.slice (ts i).a (ts i).n (ts i).c)) ∧ ByteRow w (ts i).a (ts i).n (ts i).L ∧ (ts i).n ≤ (ts i).c ∧ (ts i).c ≤ maxLen)
theorem spts_of {H : Type} {enc : TypeId × Value → H} {w : World} {a : Option Addr} {len cap : Nat} {d : DataW H} {p : List MemPlace} (h : DataW.Trod enc Tryd.prog w 0 (fun _ => true) true 54 (.slice a len cap) d p) : ∃ ts, Spts w a len ts := by
  obtain ⟨fuel, hf⟩ := h
  rcases open_slice Tryd.underlying54 hf with ⟨hcs, _⟩ | ⟨x, l, c, m, n, D, Pl, hcs, _, hl, hm, hmm, _, hi⟩
  · simp [Value.cells] at hcs
    obtain ⟨rfl, rfl, rfl⟩ := hcs
    exact ⟨fun _ => ⟨0, 0, 0, 0, none, 0, 0, []⟩, Nat.zero_le _, fun h => by omega⟩
  · simp [Value.cells] at hcs
    obtain ⟨rfl, rfl, rfl⟩ := hcs
    simp only [if_true] at hmm
    subst hmm
    have hC : Tryd.prog.cellsOf 56 = 5 := by kernel_rfl
    rw [hC] at hi
    have hall : ∀ i, i < len → ∃ t : Spt, (w.cell? (x.add (i * 5)) = some (.int .i64 t.at_) ∧ w.cell? ((x.add (i * 5)).add 1) = some (.int .i64 t.what) ∧ w.cell? ((x.add (i * 5)).add 2) = some (.int .i64 t.age) ∧ w.cell? ((x.add (i * 5)).add 3) = some (.int .i64 t.num) ∧ w.cell? ((x.add (i * 5)).add 4) = some (.slice t.a t.n t.c)) ∧ ByteRow w t.a t.n t.L ∧ t.n ≤ t.c ∧ t.c ≤ maxLen := by
      intro i hil
      obtain ⟨cs', hc, ht⟩ := hi i (by omega)
      have hF := fields_of Tryd.underlying56 (hone_of (by kernel_rfl)) hc ht
      obtain ⟨v0, y0, n0, c0, t0⟩ := hF 0 _ rfl
      obtain ⟨v1, y1, n1, c1, t1⟩ := hF 1 _ rfl
      obtain ⟨v2, y2, n2, c2, t2⟩ := hF 2 _ rfl
      obtain ⟨v3, y3, n3, c3, t3⟩ := hF 3 _ rfl
      obtain ⟨v4, y4, n4, c4, t4⟩ := hF 4 _ rfl
      obtain ⟨z0, rfl⟩ := int_of_trod t0
      obtain ⟨z1, rfl⟩ := int_of_trod t1
      obtain ⟨z2, rfl⟩ := int_of_trod t2
      obtain ⟨z3, rfl⟩ := int_of_trod t3
      obtain ⟨t, rfl, h1, h2, h3⟩ := row_of_trod t4
      exact ⟨⟨z0, z1, z2, z3, t.1, t.2.1, t.2.2.1, t.2.2.2⟩, ⟨by simpa [Addr.add] using c0, c1, c2, c3, c4⟩, h1, h2, h3⟩
    obtain ⟨ts, hts⟩ : ∃ ts : Nat → Spt, ∀ i, i < len → (w.cell? (x.add (i * 5)) = some (.int .i64 (ts i).at_) ∧ w.cell? ((x.add (i * 5)).add 1) = some (.int .i64 (ts i).what) ∧ w.cell? ((x.add (i * 5)).add 2) = some (.int .i64 (ts i).age) ∧ w.cell? ((x.add (i * 5)).add 3) = some (.int .i64 (ts i).num) ∧ w.cell? ((x.add (i * 5)).add 4) = some (.slice (ts i).a (ts i).n (ts i).c)) ∧ ByteRow w (ts i).a (ts i).n (ts i).L ∧ (ts i).n ≤ (ts i).c ∧ (ts i).c ≤ maxLen :=
      ⟨fun i => if h : i < len then Classical.choose (hall i h) else ⟨0, 0, 0, 0, none, 0, 0, []⟩, fun i h => by
        simp only [dif_pos h]
        exact Classical.choose_spec (hall i h)⟩
    refine ⟨ts, by omega, fun h0 => ?_⟩
    obtain ⟨b, off, spot⟩ := x
    have hc0 := (hts 0 h0).1.1
    have hspot : spot = none := by simpa [Addr.add] using World.cell?_spot hc0
    subst hspot
    refine ⟨b, off, rfl, fun i hil => ?_⟩
    obtain ⟨⟨c0, c1, c2, c3, c4⟩, h1, h2, h3⟩ := hts i hil
    have e1 : (⟨b, off, none⟩ : Addr).add (i * 5) = ⟨b, off + i * 5, none⟩ := Cr.addr_add b off (i * 5)
    rw [e1] at c0 c1 c2 c3 c4
    exact ⟨⟨c0, by simpa [Addr.add] using c1, by simpa [Addr.add] using c2, by simpa [Addr.add] using c3, by simpa [Addr.add] using c4⟩, h1, h2, h3⟩
theorem Spts.at_ {w : World} {a : Option Addr} {n : Nat} {ts : Nat → Spt} (h : Spts w a n ts) {k : Nat} (hk : k < n) :
    ∃ b o : Nat, b < w.heap.size ∧ (w.cell? ⟨b, o, none⟩ = some (.int .i64 (ts k).at_) ∧ w.cell? ⟨b, o + 1, none⟩ = some (.int .i64 (ts k).what) ∧ w.cell? ⟨b, o + 2, none⟩ = some (.int .i64 (ts k).age) ∧ w.cell? ⟨b, o + 3, none⟩ = some (.int .i64 (ts k).num) ∧ w.cell? ⟨b, o + 4, none⟩ = some (.slice (ts k).a (ts k).n (ts k).c)) ∧ ByteRow w (ts k).a (ts k).n (ts k).L ∧ (ts k).n ≤ (ts k).c ∧ (ts k).c ≤ maxLen ∧ ∀ (cap : Nat) (W : World), (Instr.indexAt 54 (.slice a n cap) (.int .i64 (k : Int))).run Tryd.prog W = .ok (.pointer (some ⟨b, o, none⟩)) W := by
  obtain ⟨_, h4⟩ := h
  obtain ⟨b, o, rfl, hc⟩ := h4 (by omega)
  obtain ⟨⟨c0, c1, c2, c3, c4⟩, h1, h2, h3⟩ := hc k hk
  refine ⟨b, o + k * 5, cell_lt c0, ⟨c0, c1, c2, c3, c4⟩, h1, h2, h3, fun cap W => ?_⟩
  have g1 : (0 : Int) ≤ (k : Int) := by omega
  have g2 : (k : Int) < (n : Int) := by omega
  clear hc h4 c0 c1 c2 c3 c4 h1 h2 h3
  go_simp
theorem str_head (l : List Nat) (h : l.length = 512) (W : World) : (Instr.slice 9 (.string (bstr l)) none (some (.int .i64 511)) none).run Tryd.prog W = .ok (.string (bstr (l.take 511))) W := by
  have hs : (bstr l).size = 512 := by rw [size_bstr, h]
  have e : (bstr l).extract 0 511 = bstr (l.take 511) := by
    apply ByteArray.ext
    apply Array.ext'
    rw [ByteArray.data_extract]
    simp [bstr, List.map_take]
  rw [← e]
  generalize bstr l = s at *
  go_simp
/-- a log that nobody armed -/
theorem Lc.lq {w wr : World} {p g m : Nat} {F : Nat → Prop} {s : LSt} {d : DSt} {R : List (List Nat)} (h : Lc w wr p g F s d R m) (hq : d.armed = false ∧ d.left = 0) : Lq w wr p F s d R m := ⟨h.disk, h.fit, h.calm, hq, h.ok, h.new, h.below, h.at_, h.age⟩
/-- records that were written here -/
def Known (S : List (List Nat)) : Prop := ∀ B ∈ S, B = [110, 101, 120, 116] ∨ B.length = 3066
theorem known_nil : Known [] := fun B hB => (List.not_mem_nil hB).elim
theorem Known.snoc {S : List (List Nat)} (h : Known S) {B : List Nat} (hB : B = [110, 101, 120, 116] ∨ B.length = 3066) : Known (S ++ [B]) := fun C hC => by
  rcases List.mem_append.1 hC with hC | hC
  · exact h C hC
  · rw [List.mem_singleton] at hC
    subst hC
    exact hB
theorem crash_answer {w wr : World} {p g m : Nat} {F : Nat → Prop} {s : LSt} {d : DSt} {S S' : List (List Nat)} {r : Int} (h : Answer w wr p g F s d S S' m r) (hS : Known S) (hS' : Known S') (a : Option Addr) (n cap : Nat) (zs : List Int) (hz : IntRow wr a n zs) (ha : 0 < n → ∀ x, a = some x → ¬ F x.block) :
    Calls Tryd.prog 20 #[.pointer (some ⟨p, 0, none⟩), .slice a n cap] wr fun e w' => e = .returned (.tuple #[]) ∧ ∃ s1 d1 R1, Known R1 ∧ Lq w w' p F s1 d1 R1 m ∧ Only F wr w' := by
  rcases h with ⟨_, s1, h⟩ | ⟨_, h⟩ | ⟨_, s1, h⟩
  · refine (lc_crash h a n cap zs hz ha).mono ?_
    rintro e w' ⟨rfl, d1, hq, ho⟩
    exact ⟨rfl, _, d1, S', hS', hq, ho⟩
  · refine (lc_crash h a n cap zs hz ha).mono ?_
    rintro e w' ⟨rfl, d1, hq, ho⟩
    exact ⟨rfl, _, d1, S, hS, hq, ho⟩
  · refine (lb_crash h a n cap zs hz ha).mono ?_
    rintro e w' ⟨rfl, s2, d1, R1, hor, hq, ho⟩
    refine ⟨rfl, s2, d1, R1, ?_, hq, ho⟩
    rcases hor with ⟨_, e⟩ | ⟨_, e⟩
    · rw [e]; exact hS
    · rw [e]; exact hS'
theorem Answer.below {w wr : World} {p g m : Nat} {F : Nat → Prop} {s : LSt} {d : DSt} {S S' : List (List Nat)} {r : Int} (h : Answer w wr p g F s d S S' m r) : Below w.heap.size w wr ∧ ∀ j, F j → w.heap.size ≤ j := by
  rcases h with ⟨_, s1, h⟩ | ⟨_, h⟩ | ⟨_, s1, h⟩ <;> exact ⟨h.below, h.new⟩
end Go.Proofs.YtcmnfbpmkndfkaaDoor
namespace Go.Proofs.YtcmnfbpmkndfkaaDoor
open Go.ChangeShapes Go.WideShapes Go.ChangeAt Go.RowKit Go.Deep
set_option linter.unusedVariables false
set_option maxRecDepth 100000

abbrev Tab := Cr.Tab
abbrev IsRow := Cr.IsRow
theorem sliceTo (a : Option Addr) (len cap m : Nat) (h1 : m ≤ cap) (hc : cap ≤ maxLen) (w : World) : (Instr.slice 34 (.slice a len cap) none (some (.int .i64 (m : Int))) none).run Tryd.prog w = .ok (.slice a m cap) w := by
  rw [run_slice_h w 34 a len cap (by kernel_rfl) .i64 (m : Int) (by omega) (by omega)]
  go_simp
theorem row_old {w : World} {a : Option Addr} {n : Nat} {l : List Nat} (h : ByteRow w a n l) (h0 : 0 < n) : ∀ x, a = some x → x.block < w.heap.size := by
  intro x hx
  obtain ⟨b, o, e, hc⟩ := h.2.2.2 h0
  rw [hx] at e
  obtain rfl := Option.some.inj e
  have := cell_lt (hc 0 h0)
  exact this
theorem new_box (w : World) (cs : Array Value) (t : TypeId) (i : Nat) (v : Value) (h : cs[i]? = some v) : (w.alloc (.cells cs t)).cell? ⟨w.heap.size, i, none⟩ = some v := by
  have := Cr.cell_new w cs t (0, 0) _ i v rfl h
  exact this
theorem next_row (W : World) (fr : Nat × Nat) : ByteRow (W.alloc (.cells #[.int .u8 110, .int .u8 101, .int .u8 120, .int .u8 116] 5 fr)) (some ⟨W.heap.size, 0, none⟩) 4 [110, 101, 120, 116] := by
  refine ⟨rfl, by decide, by decide, fun _ => ⟨_, 0, rfl, fun i hi => ?_⟩⟩
  rw [Nat.zero_add]
  have e : i = 0 ∨ i = 1 ∨ i = 2 ∨ i = 3 := by omega
  rcases e with rfl | rfl | rfl | rfl <;> exact Cr.cell_new W _ _ _ _ _ _ rfl rfl
set_option maxHeartbeats 4000000 in
theorem stale_walk (a : Option Addr) (len cap : Nat) (ts : Nat → Spt) (pa : Option Addr) (pl pc : Nat) (zs : List Int) (w : World) (hrow : Spts w a len ts) (hz : IntRow w pa pl zs) (hpo : 0 < pl → ∀ x, pa = some x → x.block < w.heap.size) (ht : Cr.Tab w) :
    Calls Tryd.prog 5 #[.slice a len cap, .slice pa pl pc] w fun e w' => e = .returned (.bool true) ∧ Below w.heap.size w w' := by
  have HT := Lib.hid ht
  have HROW := Lib.hid hrow
  have HZ := Lib.hid hz
  have HPO := Lib.hid hpo
  clear hrow hz hpo
  have HFr := Lib.hid (fresh_c w ht)
  clear ht
  have kc := fun (w : World) (C : Array Value) (n c : Nat) => Lib.run_convert_bytes_const (P := Tryd.prog) w 34 5 C n c Tryd.underlying34 Tryd.underlying5
  have KC := Lib.hid kc
  clear kc
  go_enter Tryd.func5, Tryd.ntmps5
  go_wp2_with fail
  refine HFr.out.mono ?_
  clear HFr
  rintro e w1 ⟨p, g, F, rfl, _, d, hlc, hqa, hql⟩
  have HL1 := Lib.hid hlc
  have HQ1 : Hid (d.armed = false ∧ d.left = 0) := Lib.hid ⟨hqa, hql⟩
  clear hlc hqa hql
  go_wp2_with (go_at_call 6; refine (logs_any _ (Cr.Tab.below HT.out HL1.out.below)).mono ?_; rintro e w2 ⟨rfl, hb⟩; have HL2 := Lib.hid (HL1.out.to hb); clear hb)
  go_loopw [6, 8] (fun l i wr => ∃ (k g : Nat) (F : Nat → Prop) (s : LSt) (d : DSt) (S : List (List Nat)), l = .pointer (some ⟨g, 0, none⟩) ∧ i = .int .i64 (k : Int) ∧ k ≤ 12 ∧ Lc w wr p g F s d S (17 + 60 * k) ∧ Hid (d.armed = false ∧ d.left = 0) ∧ Hid (Known S)) (fun _ i _ => 12 - (intOf i).toNat)
  case atStart => exact ⟨0, g, F, s18, d, [], rfl, rfl, by omega, HL2.out, HQ1, Lib.hid known_nil⟩
  case round =>
    obtain ⟨k, g, F, s, d, S, rfl, rfl, hk, hlc, HQd, HKn⟩ := hrel
    obtain ⟨wq, rfl⟩ : ∃ x, x = wr := ⟨_, rfl⟩
    have HLc := Lib.hid hlc
    clear hlc HL2 HL1 HQ1
    by_cases hlt : k < len ∧ k < 12
    · obtain ⟨hl1, hl2⟩ := hlt
      obtain ⟨b, o, hbl, ⟨c0, c1, c2, c3, c4⟩, r1, hc1, hc2, hix⟩ := HROW.out.at_ hl1
      generalize ts k = t at *
      obtain ⟨at_, what, ageV, num, ab, nb, cb, L⟩ := t
      dsimp only at c0 c1 c2 c3 c4 r1 hc1 hc2
      obtain ⟨M, hM⟩ : ∃ M, M = min nb 300 := ⟨_, rfl⟩
      have hmin : min (nb : Int) 300 = (M : Int) := by omega
      have hM1 : M ≤ 300 := by omega
      have hM2 : M ≤ nb := by omega
      have hM3 : M ≤ cb := by omega
      have hk12 : (k : Int) < 12 := by omega
      have hkl : (k : Int) < (len : Int) := by omega
      have hsl := fun W => sliceTo ab nb cb M hM3 hc2 W
      have HROWm := Lib.hid (row_take r1 hM2)
      have hsr := HLc.out.below.size
      have c0' := (HLc.out.below.cell (p := ⟨b, o, none⟩) hbl).trans c0
      have c1' := (HLc.out.below.cell (p := ⟨b, o + 1, none⟩) hbl).trans c1
      have c2' := (HLc.out.below.cell (p := ⟨b, o + 2, none⟩) hbl).trans c2
      have c3' := (HLc.out.below.cell (p := ⟨b, o + 3, none⟩) hbl).trans c3
      have c4' := (HLc.out.below.cell (p := ⟨b, o + 4, none⟩) hbl).trans c4
      clear c0 c1 c2 c3 c4 r1 hM
      go_wp2_with fail
      obtain ⟨WB, hWB⟩ : ∃ WB, WB = wq.alloc (.cells #[.int .i64 at_, .int .i64 what, .int .i64 ageV, .int .i64 num, .slice ab nb cb] 56) := ⟨_, rfl⟩
      rw [← hWB]
      have HAl : Hid (Below wq.heap.size wq WB) := Lib.hid (by rw [hWB]; exact (Below.refl _ _).alloc (Nat.le_refl _) _)
      have hFl : ∀ j, F j → j < wq.heap.size := fun j hj => HLc.out.disk.lts j hj
      have hgl : g < wq.heap.size := HLc.out.log.lt
      have HBn : Hid (∀ W, Below WB.heap.size WB W → Bx W F g wq.heap.size #[.int .i64 at_, .int .i64 what, .int .i64 ageV, .int .i64 num, .slice ab nb cb] 56) := Lib.hid (fun W hb => by
        rw [hWB] at hb
        exact bx_new F g _ _ hb hFl hgl)
      have hs1 := HAl.out.size
      have HLB : Hid (∀ W, Below WB.heap.size WB W → Lc w W p g F s d S (17 + 60 * k)) := Lib.hid (fun W hb => HLc.out.to (Below.step hb HAl.out hs1))
      have hage := HLc.out.age
      have hB256 := HROWm.out.2.2.1
      have hBl := HROWm.out.1
      have HCv := Lib.hid (fun (W : World) (hb : Below w.heap.size w W) => conv_row cb (HROWm.out.below hb))
      generalize hBB : L.take M = B at *
      have HB256 := Lib.hid hB256
      obtain ⟨A, hA⟩ : ∃ A, A = s.age := ⟨_, rfl⟩
      rw [← hA] at hage
      have HA := Lib.hid hA
      have hB3 : B.length ≤ 300 := by omega
      clear hWB c0' c1' c2' c3' c4' hB256 hBB hA hBl
      go_loopw [11, 12] (fun f j wr2 => ∃ (n : Nat) (fk : List Nat), f = .string (bstr fk) ∧ j = .int .i64 (n : Int) ∧ n ≤ 3 ∧ Hid (fk.length = 1022 * n ∧ ∀ c ∈ fk, c < 256) ∧ Below WB.heap.size WB wr2) (fun _ j _ => 3 - (intOf j).toNat)
      case atStart => exact ⟨0, [], rfl, rfl, by omega, Lib.hid ⟨rfl, fun c hc => (List.not_mem_nil hc).elim⟩, Below.refl _ _⟩
      case round =>
        obtain ⟨n, fk, rfl, rfl, hn, HFk, hbel⟩ := hrel
        have HB2 := Lib.hid hbel
        clear hbel
        by_cases hn3 : n < 3
        · have hn3i : (n : Int) < 3 := by omega
          obtain ⟨j, hj⟩ : ∃ j, j = n % 2 := ⟨_, rfl⟩
          have hj1 : j ≤ 1 := by omega
          have ht : ((n : Int).tmod 2) = (j : Int) := by rw [Int.tmod_eq_emod_of_nonneg (by omega)]; omega
          have ht2 : (n : Int) % 2 = (j : Int) := by omega
          have HAg : Hid (∀ W, Gl wr.drew W → Calls Tryd.prog 10 #[.pointer (some ⟨g, 0, none⟩)] W fun e w' => e = .returned (.int .i64 (A : Int)) ∧ W = w') := Lib.hid (fun W hb => by
            have h := age_any W g p s (HLB.out W (Below.step hb.undrew HB2.out HB2.out.size)).log
            rw [HA.out]
            exact h)
          have HFi := Lib.hid (fun W => refFirst ((A : Int) + (j : Int)) (n : Int) B (by omega) (by omega) HB256.out (by omega) W)
          have HCv2 : Hid (∀ W, Gl wr.drew W → (convert 34 9 (.slice ab M cb)).run Tryd.prog W = .ok (.string (bstr B)) W) := Lib.hid (fun W hb => HCv.out W (HLB.out W (Below.step hb.undrew HB2.out HB2.out.size)).below)
          have hX := startL_length ((A : Int) + (j : Int)) (n : Int) B
          have hX256 : ∀ c ∈ startL ((A : Int) + (j : Int)) (n : Int) B, c < 256 := startL_lt _ _ _
          have HX256 := Lib.hid hX256
          generalize startL ((A : Int) + (j : Int)) (n : Int) B = X at *
          clear hj hX256
          have hw1 : IntKind.i64.wrap ((A : Int) + (j : Int)) = (A : Int) + (j : Int) := wrap_idk _ (by omega) (by omega)
          have hw2 : wrap64 ((A : Int) + (j : Int)) = (A : Int) + (j : Int) := wrap_id _ (by omega) (by omega)
          go_wp2_with fail
          refine wp_region_inv_lit [.is (.pointer (some ⟨g, 0, none⟩)), .is (.int .i64 (A : Int)), .is (.int .i64 (n : Int)), .is (.int .i64 (j : Int)), .is (.int .i64 ((A : Int) + (j : Int))), .is (.int .i64 (n : Int)), .is (.slice ab M cb), .is (.string (bstr B)), .is (.string (bstr X)), .is (.string (bstr X))] (by kernel_rfl) (by kernel_rfl) ?_
          refine wpInv_is ?_ ?_
          · (intro W hW hF K hK; clear hF; go_simp; exact hK _ _ (Gl.refl _) rfl)
          simp only [Act.put, List.setIfInBounds_toArray, List.set_cons_zero, List.set_cons_succ]
          refine wpInv_is ?_ ?_
          · intro W hW hF K hK
            clear hF
            go_simp
            refine (HAg.out W hW).mono ?_
            rintro e w1 ⟨rfl, rfl⟩
            exact ⟨_, rfl, hK _ _ (Gl.refl _) rfl⟩
          simp only [Act.put, List.setIfInBounds_toArray, List.set_cons_zero, List.set_cons_succ]
          iterate 6 (refine wpInv_is ?_ ?_; (focus (intro W hW hF K hK; clear hF; have hcv := HCv2.out W hW; go_simp; exact hK _ _ (Gl.refl _) rfl)); simp only [Act.put, List.setIfInBounds_toArray, List.set_cons_zero, List.set_cons_succ])
          refine wpInv_is ?_ ?_
          · intro W hW hF K hK
            clear hF
            go_simp
            refine (HFi.out W).mono ?_
            rintro e w1 ⟨rfl, hb⟩
            exact ⟨_, rfl, hK _ _ hb rfl⟩
          simp only [Act.put, List.setIfInBounds_toArray, List.set_cons_zero, List.set_cons_succ]
          refine wpInv_is ?_ ?_
          · (intro W hW hF K hK; clear hF; go_simp; exact hK _ _ (Gl.refl _) rfl)
          simp only [Act.put, List.setIfInBounds_toArray, List.set_cons_zero, List.set_cons_succ]
          refine wpInv_end ?_
          intro w7 hW hF
          have HB7 := Lib.hid (Below.step hW.undrew HB2.out HB2.out.size)
          clear hW hF hw1 hw2 ht ht2 HCv2 HFi HAg
          have HAg : Hid (∀ W, Gl w7.drew W → Calls Tryd.prog 10 #[.pointer (some ⟨g, 0, none⟩)] W fun e w' => e = .returned (.int .i64 (A : Int)) ∧ W = w') := Lib.hid (fun W hb => by
            have h := age_any W g p s (HLB.out W (Below.step hb.undrew HB7.out HB7.out.size)).log
            rw [HA.out]
            exact h)
          have HHd := Lib.hid (fun W => refHead ((A : Int) + 1 + (n : Int)) (by omega) (by omega) W)
          have hY := headL_length ((A : Int) + 1 + (n : Int))
          have HY256 := Lib.hid (headL_lt ((A : Int) + 1 + (n : Int)))
          have hsh1 := fun W => str_head X hX W
          have hap1 : bstr fk ++ bstr (X.take 511) = bstr (fk ++ X.take 511) := bstr_cat _ _
          have hap2 : bstr (fk ++ X.take 511) ++ bstr ((headL ((A : Int) + 1 + (n : Int))).take 511) = bstr (fk ++ X.take 511 ++ (headL ((A : Int) + 1 + (n : Int))).take 511) := bstr_cat _ _
          have hsz1 : (bstr fk).size ≤ 4000 := by rw [size_bstr, HFk.out.1]; omega
          have hsz2 : (bstr (X.take 511)).size ≤ 511 := by rw [size_bstr, List.length_take]; omega
          have hsz3 : (bstr (fk ++ X.take 511)).size ≤ 4000 := by rw [size_bstr, List.length_append, List.length_take, HFk.out.1]; omega
          have hsz4 : (bstr ((headL ((A : Int) + 1 + (n : Int))).take 511)).size ≤ 511 := by rw [size_bstr, List.length_take]; omega
          have hsh2 := fun W => str_head (headL ((A : Int) + 1 + (n : Int))) hY W
          have HFk2 : Hid ((fk ++ X.take 511 ++ (headL ((A : Int) + 1 + (n : Int))).take 511).length = 1022 * (n + 1) ∧ ∀ c ∈ (fk ++ X.take 511 ++ (headL ((A : Int) + 1 + (n : Int))).take 511), c < 256) := Lib.hid (by
            refine ⟨by rw [List.length_append, List.length_append, List.length_take, List.length_take, hX, hY, HFk.out.1]; omega, fun c hc => ?_⟩
            rcases List.mem_append.1 hc with hc | hc
            · rcases List.mem_append.1 hc with hc | hc
              · exact HFk.out.2 c hc
              · exact HX256.out c (List.mem_of_mem_take hc)
            · exact HY256.out c (List.mem_of_mem_take hc))
          clear hX hY HY256 HX256
          generalize fk ++ X.take 511 ++ (headL ((A : Int) + 1 + (n : Int))).take 511 = fk2 at *
          generalize bstr (fk ++ X.take 511) = fk1 at *
          generalize bstr ((headL ((A : Int) + 1 + (n : Int))).take 511) = y1 at *
          generalize headL ((A : Int) + 1 + (n : Int)) = Y at *
          generalize bstr (X.take 511) = x1 at *
          have hno1 : ¬ (9223372036854775807 < (bstr fk).size + x1.size) := by omega
          have hno2 : ¬ (9223372036854775807 < fk1.size + y1.size) := by omega
          have hw1 : IntKind.i64.wrap ((A : Int) + 1) = (A : Int) + 1 := wrap_idk _ (by omega) (by omega)
          have hw2 : wrap64 ((A : Int) + 1) = (A : Int) + 1 := wrap_id _ (by omega) (by omega)
          have hw3 : IntKind.i64.wrap ((A : Int) + 1 + (n : Int)) = (A : Int) + 1 + (n : Int) := by clear hw1 hw2; exact wrap_idk _ (by omega) (by omega)
          have hw4 : wrap64 ((A : Int) + 1 + (n : Int)) = (A : Int) + 1 + (n : Int) := by clear hw1 hw2 hw3; exact wrap_id _ (by omega) (by omega)
          go_wp2_with fail
          refine wp_region_inv_lit [.is (.string (bstr fk)), .is (.string (bstr X)), .is (.string x1), .is (.string fk1), .is (.pointer (some ⟨g, 0, none⟩)), .is (.int .i64 (A : Int)), .is (.int .i64 ((A : Int) + 1)), .is (.int .i64 (n : Int)), .is (.int .i64 ((A : Int) + 1 + (n : Int))), .is (.string (bstr Y)), .is (.string y1), .is (.string (bstr fk2)), .is (.string (bstr fk2))] (by kernel_rfl) (by kernel_rfl) ?_
          iterate 5 (refine wpInv_is ?_ ?_; (focus (intro W hW hF K hK; clear hF; go_simp; exact hK _ _ (Gl.refl _) rfl)); simp only [Act.put, List.setIfInBounds_toArray, List.set_cons_zero, List.set_cons_succ])
          refine wpInv_is ?_ ?_
          · intro W hW hF K hK
            clear hF
            go_simp
            refine (HAg.out W hW).mono ?_
            rintro e w1 ⟨rfl, rfl⟩
            exact ⟨_, rfl, hK _ _ (Gl.refl _) rfl⟩
          simp only [Act.put, List.setIfInBounds_toArray, List.set_cons_zero, List.set_cons_succ]
          iterate 3 (refine wpInv_is ?_ ?_; (focus (intro W hW hF K hK; clear hF; go_simp; exact hK _ _ (Gl.refl _) rfl)); simp only [Act.put, List.setIfInBounds_toArray, List.set_cons_zero, List.set_cons_succ])
          refine wpInv_is ?_ ?_
          · intro W hW hF K hK
            clear hF
            go_simp
            refine (HHd.out W).mono ?_
            rintro e w1 ⟨rfl, hb⟩
            exact ⟨_, rfl, hK _ _ hb rfl⟩
          simp only [Act.put, List.setIfInBounds_toArray, List.set_cons_zero, List.set_cons_succ]
          iterate 3 (refine wpInv_is ?_ ?_; (focus (intro W hW hF K hK; clear hF; go_simp; exact hK _ _ (Gl.refl _) rfl)); simp only [Act.put, List.setIfInBounds_toArray, List.set_cons_zero, List.set_cons_succ])
          refine wpInv_end ?_
          intro w8 hW hF
          have HB8 := Lib.hid (Below.step hW.undrew HB7.out HB7.out.size)
          clear hW hF hw1 hw2 hw3 hw4 hap1 hap2 hsz1 hsz2 hsz3 hsz4 hsh1 hsh2 hno1 hno2
          go_wp2_with fail
          go_roundw
          case rel => exact ⟨n + 1, fk2, rfl, by go_num, by omega, HFk2, HB8.out⟩
          case measure => simp [intOf]; omega
        · obtain rfl : n = 3 := by omega
          have hfl : fk.length = 3066 := HFk.out.1
          have hfs : (bstr fk).size = 3066 := by rw [size_bstr, hfl]
          have hconv := fun W => run_bytes_of_string (P := Tryd.prog) W 9 34 5 (bstr fk) Tryd.underlying9 Tryd.underlying34 Tryd.underlying5
          have HRow : Hid (∀ (W : World) (c : Nat) (fr : Nat × Nat), ByteRow (W.drew.alloc (.cells (bytesRow (bstr fk) c) 5 fr)) (some ⟨W.heap.size, 0, none⟩) 3066 fk) := Lib.hid (fun W c fr => by
            have h := row_of_string W (bstr fk) (by rw [hfs]; decide) c fr
            rw [hfs, bytesOf_bstr fk HFk.out.2] at h
            exact h)
          rw [hfs] at hconv
          generalize hFK : bstr fk = FK at *
          clear hFK
          have HLr := Lib.hid (HLB.out wr HB2.out)
          have HBx := Lib.hid (HBn.out wr HB2.out)
          go_wp2_with fail
          clear hconv
          obtain ⟨W5, hW5⟩ : ∃ W5, W5 = (wr.alloc (.cells (bytesRow FK (grownCap wr 3066 0 5)) 5 ((bytesRow FK (grownCap wr 3066 0 5)).size, (bytesRow FK (grownCap wr 3066 0 5)).size + 1))).drew := ⟨_, rfl⟩
          rw [← hW5]
          have HB5 : Hid (Below wr.heap.size wr W5) := Lib.hid (by rw [hW5]; exact ((Below.refl _ _).alloc (Nat.le_refl _) _).drew)
          have hrow5 : ByteRow W5 (some ⟨wr.heap.size, 0, none⟩) 3066 fk := by rw [hW5]; exact HRow.out wr _ _
          have hcg := grownCap_ge wr 3066 0 5
          have hcm := grownCap_le_maxLen wr 3066 0 5 (by decide)
          generalize grownCap wr 3066 0 5 = CG at *
          have HL5 := Lib.hid (HLr.out.to HB5.out)
          have HBx5 := Lib.hid (HBx.out.below HB5.out)
          have hAn := lc_append w W5 p g (17 + 60 * k) 3066 CG F (some ⟨wr.heap.size, 0, none⟩) s d S fk HL5.out hrow5 hcg hcm (fun h0 x hx => by
            obtain rfl := Option.some.inj hx
            exact ⟨fun h => Nat.lt_irrefl _ (HLr.out.disk.lts _ h), fun h => by have := HLr.out.log.lt; dsimp only at h; omega⟩) (by decide) (by omega) HT.out
          have HAn := Lib.hid hAn
          clear hAn hrow5 hW5 HRow HCv HBn HLB
          refine HAn.out.mono ?_
          clear HAn
          rintro e w6 ⟨r, F6, d6, rfl, hex, hqk, han⟩
          have hqk' := hqk HQd.out.1 HQd.out.2 HLr.out.calm.off
          have HBx6 := Lib.hid (HBx5.out.ext hex)
          have HQ6 : Hid (d6.armed = false ∧ d6.left = 0) := Lib.hid hqk'.2
          have hr8 := hqk'.1
          clear hqk hqk' hex
          rcases han with ⟨rfl, _, h7⟩ | ⟨rfl, _, h7⟩ | ⟨rfl, _⟩
          · have HL7 := Lib.hid h7
            have x0 : w6.cell? ⟨wq.heap.size, 0, none⟩ = some (.int .i64 at_) := HBx6.out.cell 0 _ rfl
            have x3 : w6.cell? ⟨wq.heap.size, 3, none⟩ = some (.int .i64 num) := HBx6.out.cell 3 _ rfl
            have HKn7 : Hid (Known (S ++ [fk])) := Lib.hid (HKn.out.snoc (.inr hfl))
            clear h7 hr8
            obtain ⟨q5, hq5, hqe5⟩ := mod_cut num 5 (by decide) (by decide)
            have HQ5 : Hid (wrap64 ((IntKind.u64.wrap num).tmod 5) = (q5 : Int)) := Lib.hid hqe5
            clear hqe5
            by_cases hdv : (at_.tmod 3 == 0) = true
            · go_wp2_with fail
              rw [HQ5.out]
              refine (lc_arm HL7.out q5 (by omega)).mono ?_
              rintro e w8 ⟨rfl, d8, hl8, _⟩
              have HL8 := Lib.hid hl8
              clear hl8 x0 x3
              have kc := KC.out
              go_wp2_with fail
              obtain ⟨W9, hW9⟩ : ∃ W9, W9 = w8.alloc (.cells #[.int .u8 110, .int .u8 101, .int .u8 120, .int .u8 116] 5 (4, 5)) := ⟨_, rfl⟩
              rw [← hW9]
              have HB9 : Hid (Below w8.heap.size w8 W9) := Lib.hid (by rw [hW9]; exact (Below.refl _ _).alloc (Nat.le_refl _) _)
              have hrow9 : ByteRow W9 (some ⟨w8.heap.size, 0, none⟩) 4 [110, 101, 120, 116] := by rw [hW9]; exact next_row w8 (4, 5)
              have HL9 := Lib.hid (HL8.out.to HB9.out)
              have hAn := answer_append w W9 p g (17 + 60 * k + 20) 4 4 F6 (some ⟨w8.heap.size, 0, none⟩) (s.passed 3066) d8 (S ++ [fk]) [110, 101, 120, 116] HL9.out hrow9 (by decide) (by decide) (fun h0 x hx => by
                obtain rfl := Option.some.inj hx
                exact ⟨fun h => Nat.lt_irrefl _ (HL8.out.disk.lts _ h), fun h => by have := HL8.out.log.lt; dsimp only at h; omega⟩) (by decide) (by omega) HT.out
              have HAn := Lib.hid hAn
              clear hAn hrow9 hW9 kc
              refine HAn.out.mono ?_
              clear HAn
              rintro e w10 ⟨r, F10, s10, d10, rfl, _, han⟩
              have HAns := Lib.hid han
              have HC10 := Lib.hid (crash_answer han HKn7.out (HKn7.out.snoc (.inl rfl)) pa pl pc zs (HZ.out.below han.below.1) (fun h0 x hx hF => by have := HPO.out h0 x hx; have := han.below.2 _ hF; omega))
              clear han
              go_wp2_with fail
              refine HC10.out.mono ?_
              clear HC10
              rintro e w11 ⟨rfl, s11, d11, R, hkn, hlq, _⟩
              have HLq := Lib.hid hlq
              have HKR := Lib.hid hkn
              have HQ11 := Lib.hid hlq.quiet
              clear hlq hkn
              go_wp2_with fail
              refine (lq_open HLq.out HT.out).mono ?_
              rintro e w12 ⟨rv, rfl, hr12, hl12, hb12⟩
              have hfew := hl12.few
              obtain ⟨ra, rc, rfl, hbr⟩ := hr12.brows
              have HBR := Lib.hid hbr
              have HL12 := Lib.hid hl12
              clear hr12 hl12 hb12 hbr
              obtain ⟨RL, hRL⟩ : ∃ RL, RL = R.length := ⟨_, rfl⟩
              rw [← hRL] at hfew ⊢
              have HRL := Lib.hid hRL
              clear hRL
              go_wp2_with fail
              go_loopw [21] (fun i wr => ∃ m : Nat, i = .int .i64 (m : Int) ∧ m ≤ RL ∧ Below w12.heap.size w12 wr) (fun i _ => RL - (intOf i).toNat)
              case atStart => exact ⟨0, rfl, Nat.zero_le _, Below.refl _ _⟩
              case round =>
                obtain ⟨m, rfl, hm, hbel⟩ := hrel
                have HB13 := Lib.hid hbel
                clear hbel
                by_cases hmR : m < RL
                · have hmi : (m : Int) < (RL : Int) := by omega
                  obtain ⟨g1, gb, cb1, rfl, hc1, hr1⟩ := HBR.out m (by rw [← HRL.out]; exact hmR)
                  have hx1 := idx_brow g1 RL rc m hmR
                  have hcc := (HB13.out.cell (p := ⟨g1, m, none⟩) (cell_lt hc1)).trans hc1
                  have hcv := conv_row cb1 (hr1.below HB13.out)
                  have hmem : R.getD m [] ∈ R := by
                    have hm' : m < R.length := by rw [← HRL.out]; exact hmR
                    rw [List.getD_eq_getElem?_getD, List.getElem?_eq_getElem hm']
                    exact List.getElem_mem hm'
                  have hkn := HKR.out _ hmem
                  have ht := texts_dec hr1.2.2.1 (m := [110, 101, 120, 116]) (by decide)
                  rw [show bstr [110, 101, 120, 116] = (⟨#[110, 101, 120, 116]⟩ : ByteArray) from rfl, show (⟨#[110, 101, 120, 116]⟩ : ByteArray).toList = [110, 101, 120, 116] by rw [ByteArray.toList_eq]] at ht
                  clear hc1 hr1 hmem
                  generalize R.getD m [] = B1 at *
                  by_cases hB1 : B1 = [110, 101, 120, 116]
                  · rw [decide_eq_true hB1] at ht
                    have htp := eq_of_beq ht
                    clear hkn hB1
                    generalize bstr B1 = bB at *
                    generalize B1.length = nB at *
                    go_wp2_with fail
                    go_roundw
                    case rel => exact ⟨m + 1, by go_num, by omega, HB13.out⟩
                    case measure => simp [intOf]; omega
                  · rw [decide_eq_false hB1] at ht
                    have htp := ne_of_beq_false ht
                    have hlen : B1.length = 3066 := hkn.resolve_left hB1
                    rw [hlen] at hcc hcv
                    clear hkn hB1 hlen
                    generalize bstr B1 = bB at *
                    go_wp2_with fail
                    go_roundw
                    case rel => exact ⟨m + 1, by go_num, by omega, HB13.out⟩
                    case measure => simp [intOf]; omega
                · have hmi : ¬ (m : Int) < (RL : Int) := by omega
                  go_wp2_with fail
                  go_roundw
                  case rel => exact ⟨k + 1, w11.heap.size, F10, s11, d11, R, rfl, by go_num, by omega, (HL12.out.to HB13.out).more (by omega), HQ11, HKR⟩
                  case measure => simp [intOf]; omega
            · have hdv' : (at_.tmod 3 == 0) = false := by simpa using hdv
              go_wp2_with fail
              go_roundw
              case rel => exact ⟨k + 1, g, F6, s.passed 3066, d6, S ++ [fk], rfl, by go_num, by omega, HL7.out.more (by omega), HQ6, HKn7⟩
              case measure => simp [intOf]; omega
          · have HL7 := Lib.hid h7
            clear hr8
            have HTr := Lib.hid (lc_truncate w w6 p g (17 + 60 * k) F6 s d6 S h7 (by omega) HT.out)
            clear h7
            go_wp2_with fail
            refine HTr.out.mono ?_
            clear HTr
            rintro e w8 ⟨r8, F8, d8, rfl, hex, hqk, han⟩
            have hqk' := hqk HQ6.out.1 HQ6.out.2 HL7.out.calm.off
            have HQ8 : Hid (d8.armed = false ∧ d8.left = 0) := Lib.hid hqk'.2
            have hr8' := hqk'.1
            clear hqk hqk' hex
            rcases han with ⟨rfl, h8⟩ | ⟨rfl, _⟩
            · have HL8 := Lib.hid h8
              clear h8 hr8'
              go_wp2_with fail
              refine (lq_open (HL8.out.lq HQ8.out) HT.out).mono ?_
              rintro e w9 ⟨rv, rfl, hr9, _, hb9⟩
              obtain ⟨ra, rc, rfl, _⟩ := hr9.brows
              have HL9 := Lib.hid (HL8.out.to hb9)
              clear hr9 hb9
              go_wp2_with fail
              go_roundw
              case rel => exact ⟨k + 1, g, F8, s.cut, d8, [], rfl, by go_num, by omega, HL9.out.more (by omega), HQ8, Lib.hid known_nil⟩
              case measure => simp [intOf]; omega
            · exact absurd rfl hr8'
          · exact absurd rfl hr8
    · have hlt' : ¬ k < len ∨ (k < len ∧ k = 12) := by omega
      clear hlt
      rcases hlt' with hno | ⟨hno, rfl⟩
      all_goals
        go_wp2_with fail
        go_ret
        exact ⟨rfl, HLc.out.below⟩
theorem walStale_law {w : World} {H : Type} {enc : TypeId × Value → H} (a : Option Addr) (len cap : Nat) {d : DataW H} {p : List MemPlace} (k : DataW.Trod enc Tryd.prog w 0 (fun _ => true) true 54 (.slice a len cap) d p) (pa : Option Addr) (pl pc : Nat) (zs : List Int) (w1 : IsRow .i64 w pa pl pc zs) (ht : Tab w) :
    Calls Tryd.prog 5 #[.slice a len cap, .slice pa pl pc] w fun e w' => e = .returned (.bool true) ∧ Below w.heap.size w w' := by
  obtain ⟨ts, hts⟩ := spts_of k
  exact stale_walk a len cap ts pa pl pc (zs.take pl) w hts (intRow_of w1) (fun h0 => intRow_block (intRow_of w1) h0) ht
end Go.Proofs.YtcmnfbpmkndfkaaDoor
