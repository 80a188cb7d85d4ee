/-
  Texts put together: WsB, WeA, WeP, WeB, WeC, WeD, WeE, WeF, WeG.
-/
import Derived.Test.YtcmnfbpmkndfkaaDoorMgG
import Derived.Deep.DeepCutAuto
import Derived.Deep.CutBlock
import Derived.Test.YtcmnfbpmkndfkaaDoorMgB
import Derived.Lib.AppendStr
namespace Go.Proofs.YtcmnfbpmkndfkaaDoor
open Go.ChangeShapes Go.WideShapes Go.ChangeAt Go.RowKit Go.Deep
set_option linter.unusedVariables false
set_option maxRecDepth 100000

structure Spt where
  at_ : Int
  what : Int
  age : Int
  num : Int
  a : Option Addr
  n : Nat
  c : Nat
  L : List Nat
/-- spots that came in, all their cells -/
def Spts (w : World) (a : Option Addr) (n : Nat) (ts : Nat → Spt) : Prop :=
  n ≤ maxLen ∧ (0 < n → ∃ b o, a = some ⟨b, o, none⟩ ∧ ∀ i, i < n → (w.cell? ⟨b, o + i * 5, none⟩ = some (.int .i64 (ts i).at_) ∧ w.cell? ⟨b, o + i * 5 + 1, none⟩ = some (.int .i64 (ts i).what) ∧ w.cell? ⟨b, o + i * 5 + 2, none⟩ = some (.int .i64 (ts i).age) ∧ w.cell? ⟨b, o + i * 5 + 3, none⟩ = some (.int .i64 (ts i).num) ∧ w.cell? ⟨b, o + i * 5 + 4, none⟩ = some (.slice (ts i).a (ts i).n (ts i).c)) ∧ ByteRow w (ts i).a (ts i).n (ts i).L ∧ (ts i).n ≤ (ts i).c ∧ (ts i).c ≤ maxLen)
theorem spts_of {H : Type} {enc : TypeId × Value → H} {w : World} {a : Option Addr} {len cap : Nat} {d : DataW H} {p : List MemPlace} (h : DataW.Trod enc Tryd.prog w 0 (fun _ => true) true 54 (.slice a len cap) d p) : ∃ ts, Spts w a len ts := by
  obtain ⟨fuel, hf⟩ := h
  rcases open_slice Tryd.underlying54 hf with ⟨hcs, _⟩ | ⟨x, l, c, m, n, D, Pl, hcs, _, hl, hm, hmm, _, hi⟩
  · simp [Value.cells] at hcs
    obtain ⟨rfl, rfl, rfl⟩ := hcs
    exact ⟨fun _ => ⟨0, 0, 0, 0, none, 0, 0, []⟩, Nat.zero_le _, fun h => by omega⟩
  · simp [Value.cells] at hcs
    obtain ⟨rfl, rfl, rfl⟩ := hcs
    simp only [if_true] at hmm
    subst hmm
    have hC : Tryd.prog.cellsOf 56 = 5 := by kernel_rfl
    rw [hC] at hi
    have hall : ∀ i, i < len → ∃ t : Spt, (w.cell? (x.add (i * 5)) = some (.int .i64 t.at_) ∧ w.cell? ((x.add (i * 5)).add 1) = some (.int .i64 t.what) ∧ w.cell? ((x.add (i * 5)).add 2) = some (.int .i64 t.age) ∧ w.cell? ((x.add (i * 5)).add 3) = some (.int .i64 t.num) ∧ w.cell? ((x.add (i * 5)).add 4) = some (.slice t.a t.n t.c)) ∧ ByteRow w t.a t.n t.L ∧ t.n ≤ t.c ∧ t.c ≤ maxLen := by
      intro i hil
      obtain ⟨cs', hc, ht⟩ := hi i (by omega)
      have hF := fields_of Tryd.underlying56 (hone_of (by kernel_rfl)) hc ht
      obtain ⟨v0, y0, n0, c0, t0⟩ := hF 0 _ rfl
      obtain ⟨v1, y1, n1, c1, t1⟩ := hF 1 _ rfl
      obtain ⟨v2, y2, n2, c2, t2⟩ := hF 2 _ rfl
      obtain ⟨v3, y3, n3, c3, t3⟩ := hF 3 _ rfl
      obtain ⟨v4, y4, n4, c4, t4⟩ := hF 4 _ rfl
      obtain ⟨z0, rfl⟩ := int_of_trod t0
      obtain ⟨z1, rfl⟩ := int_of_trod t1
      obtain ⟨z2, rfl⟩ := int_of_trod t2
      obtain ⟨z3, rfl⟩ := int_of_trod t3
      obtain ⟨t, rfl, h1, h2, h3⟩ := row_of_trod t4
      exact ⟨⟨z0, z1, z2, z3, t.1, t.2.1, t.2.2.1, t.2.2.2⟩, ⟨by simpa [Addr.add] using c0, c1, c2, c3, c4⟩, h1, h2, h3⟩
    obtain ⟨ts, hts⟩ : ∃ ts : Nat → Spt, ∀ i, i < len → (w.cell? (x.add (i * 5)) = some (.int .i64 (ts i).at_) ∧ w.cell? ((x.add (i * 5)).add 1) = some (.int .i64 (ts i).what) ∧ w.cell? ((x.add (i * 5)).add 2) = some (.int .i64 (ts i).age) ∧ w.cell? ((x.add (i * 5)).add 3) = some (.int .i64 (ts i).num) ∧ w.cell? ((x.add (i * 5)).add 4) = some (.slice (ts i).a (ts i).n (ts i).c)) ∧ ByteRow w (ts i).a (ts i).n (ts i).L ∧ (ts i).n ≤ (ts i).c ∧ (ts i).c ≤ maxLen :=
      ⟨fun i => if h : i < len then Classical.choose (hall i h) else ⟨0, 0, 0, 0, none, 0, 0, []⟩, fun i h => by
        simp only [dif_pos h]
        exact Classical.choose_spec (hall i h)⟩
    refine ⟨ts, by omega, fun h0 => ?_⟩
    obtain ⟨b, off, spot⟩ := x
    have hc0 := (hts 0 h0).1.1
    have hspot : spot = none := by simpa [Addr.add] using World.cell?_spot hc0
    subst hspot
    refine ⟨b, off, rfl, fun i hil => ?_⟩
    obtain ⟨⟨c0, c1, c2, c3, c4⟩, h1, h2, h3⟩ := hts i hil
    have e1 : (⟨b, off, none⟩ : Addr).add (i * 5) = ⟨b, off + i * 5, none⟩ := Cr.addr_add b off (i * 5)
    rw [e1] at c0 c1 c2 c3 c4
    exact ⟨⟨c0, by simpa [Addr.add] using c1, by simpa [Addr.add] using c2, by simpa [Addr.add] using c3, by simpa [Addr.add] using c4⟩, h1, h2, h3⟩
theorem Spts.at_ {w : World} {a : Option Addr} {n : Nat} {ts : Nat → Spt} (h : Spts w a n ts) {k : Nat} (hk : k < n) :
    ∃ b o : Nat, b < w.heap.size ∧ (w.cell? ⟨b, o, none⟩ = some (.int .i64 (ts k).at_) ∧ w.cell? ⟨b, o + 1, none⟩ = some (.int .i64 (ts k).what) ∧ w.cell? ⟨b, o + 2, none⟩ = some (.int .i64 (ts k).age) ∧ w.cell? ⟨b, o + 3, none⟩ = some (.int .i64 (ts k).num) ∧ w.cell? ⟨b, o + 4, none⟩ = some (.slice (ts k).a (ts k).n (ts k).c)) ∧ ByteRow w (ts k).a (ts k).n (ts k).L ∧ (ts k).n ≤ (ts k).c ∧ (ts k).c ≤ maxLen ∧ ∀ (cap : Nat) (W : World), (Instr.indexAt 54 (.slice a n cap) (.int .i64 (k : Int))).run Tryd.prog W = .ok (.pointer (some ⟨b, o, none⟩)) W := by
  obtain ⟨_, h4⟩ := h
  obtain ⟨b, o, rfl, hc⟩ := h4 (by omega)
  obtain ⟨⟨c0, c1, c2, c3, c4⟩, h1, h2, h3⟩ := hc k hk
  refine ⟨b, o + k * 5, cell_lt c0, ⟨c0, c1, c2, c3, c4⟩, h1, h2, h3, fun cap W => ?_⟩
  have g1 : (0 : Int) ≤ (k : Int) := by omega
  have g2 : (k : Int) < (n : Int) := by omega
  clear hc h4 c0 c1 c2 c3 c4 h1 h2 h3
  go_simp
theorem str_head (l : List Nat) (h : l.length = 512) (W : World) : (Instr.slice 9 (.string (bstr l)) none (some (.int .i64 511)) none).run Tryd.prog W = .ok (.string (bstr (l.take 511))) W := by
  have hs : (bstr l).size = 512 := by rw [size_bstr, h]
  have e : (bstr l).extract 0 511 = bstr (l.take 511) := by
    apply ByteArray.ext
    apply Array.ext'
    rw [ByteArray.data_extract]
    simp [bstr, List.map_take]
  rw [← e]
  generalize bstr l = s at *
  go_simp
/-- a log that nobody armed -/
theorem Lc.lq {w wr : World} {p g m : Nat} {F : Nat → Prop} {s : LSt} {d : DSt} {R : List (List Nat)} (h : Lc w wr p g F s d R m) (hq : d.armed = false ∧ d.left = 0) : Lq w wr p F s d R m := ⟨h.disk, h.fit, h.calm, hq, h.ok, h.new, h.below, h.at_, h.age⟩
/-- records that were written here -/
def Known (S : List (List Nat)) : Prop := ∀ B ∈ S, B = [110, 101, 120, 116] ∨ B.length = 3066
theorem known_nil : Known [] := fun B hB => (List.not_mem_nil hB).elim
theorem Known.snoc {S : List (List Nat)} (h : Known S) {B : List Nat} (hB : B = [110, 101, 120, 116] ∨ B.length = 3066) : Known (S ++ [B]) := fun C hC => by
  rcases List.mem_append.1 hC with hC | hC
  · exact h C hC
  · rw [List.mem_singleton] at hC
    subst hC
    exact hB
theorem crash_answer {w wr : World} {p g m : Nat} {F : Nat → Prop} {s : LSt} {d : DSt} {S S' : List (List Nat)} {r : Int} (h : Answer w wr p g F s d S S' m r) (hS : Known S) (hS' : Known S') (a : Option Addr) (n cap : Nat) (zs : List Int) (hz : IntRow wr a n zs) (ha : 0 < n → ∀ x, a = some x → ¬ F x.block) :
    Calls Tryd.prog 20 #[.pointer (some ⟨p, 0, none⟩), .slice a n cap] wr fun e w' => e = .returned (.tuple #[]) ∧ ∃ s1 d1 R1, Known R1 ∧ Lq w w' p F s1 d1 R1 m ∧ Only F wr w' := by
  rcases h with ⟨_, s1, h⟩ | ⟨_, h⟩ | ⟨_, s1, h⟩
  · refine (lc_crash h a n cap zs hz ha).mono ?_
    rintro e w' ⟨rfl, d1, hq, ho⟩
    exact ⟨rfl, _, d1, S', hS', hq, ho⟩
  · refine (lc_crash h a n cap zs hz ha).mono ?_
    rintro e w' ⟨rfl, d1, hq, ho⟩
    exact ⟨rfl, _, d1, S, hS, hq, ho⟩
  · refine (lb_crash h a n cap zs hz ha).mono ?_
    rintro e w' ⟨rfl, s2, d1, R1, hor, hq, ho⟩
    refine ⟨rfl, s2, d1, R1, ?_, hq, ho⟩
    rcases hor with ⟨_, e⟩ | ⟨_, e⟩
    · rw [e]; exact hS
    · rw [e]; exact hS'
theorem Answer.below {w wr : World} {p g m : Nat} {F : Nat → Prop} {s : LSt} {d : DSt} {S S' : List (List Nat)} {r : Int} (h : Answer w wr p g F s d S S' m r) : Below w.heap.size w wr ∧ ∀ j, F j → w.heap.size ≤ j := by
  rcases h with ⟨_, s1, h⟩ | ⟨_, h⟩ | ⟨_, s1, h⟩ <;> exact ⟨h.below, h.new⟩
end Go.Proofs.YtcmnfbpmkndfkaaDoor
namespace Go.Proofs.YtcmnfbpmkndfkaaDoor
open Go.ChangeShapes Go.WideShapes Go.ChangeAt Go.RowKit Go.Deep
set_option linter.unusedVariables false
set_option maxRecDepth 100000

theorem bstr_take (l : List Nat) (k : Nat) : (bstr l).extract 0 k = bstr (l.take k) := by
  apply ByteArray.ext
  apply Array.ext'
  rw [ByteArray.data_extract]
  simp [bstr, List.map_take]
theorem bstr_drop (l : List Nat) (k n : Nat) (hn : n = l.length) : (bstr l).extract k n = bstr (l.drop k) := by
  subst hn
  apply ByteArray.ext
  apply Array.ext'
  rw [ByteArray.data_extract]
  simp [bstr, List.map_drop]
  rw [← List.map_drop, List.take_of_length_le (by simp)]
theorem str_upto (l : List Nat) (k : Nat) (z : Int) (hz : z = (k : Int)) (hk : k ≤ l.length) (hl : l.length ≤ 1000000) (W : World) : (Instr.slice 9 (.string (bstr l)) none (some (.int .i64 z)) none).run Tryd.prog W = .ok (.string (bstr (l.take k))) W := by
  subst hz
  have hs : (bstr l).size = l.length := size_bstr l
  have e := bstr_take l k
  rw [← e]
  generalize bstr l = s at *
  generalize l.length = n at *
  have h1 : ¬ ((n : Int) < (k : Int)) := by omega
  go_simp
theorem str_from (l : List Nat) (k : Nat) (z : Int) (hz : z = (k : Int)) (hk : k ≤ l.length) (hl : l.length ≤ 1000000) (W : World) : (Instr.slice 9 (.string (bstr l)) (some (.int .i64 z)) none none).run Tryd.prog W = .ok (.string (bstr (l.drop k))) W := by
  subst hz
  have hs : (bstr l).size = l.length := size_bstr l
  have e := bstr_drop l k l.length rfl
  rw [← e]
  generalize bstr l = s at *
  generalize l.length = n at *
  have h1 : ¬ ((n : Int) < (k : Int)) := by omega
  go_simp
/-- the age that the document reads of a sector -/
def rageL (l : List Nat) : Int := if l.take 2 = [76, 71] ∧ (Wr.readNum 1 4611686018427387904 (l.drop 2) 0).2.2 = 0 ∧ l = headL (Wr.readNum 1 4611686018427387904 (l.drop 2) 0).1 then (Wr.readNum 1 4611686018427387904 (l.drop 2) 0).1 else 0
theorem refNeed (n : Nat) (hn : n ≤ 30000000) (w : World) :
    Calls Tryd.prog 13 #[.int .i64 (n : Int)] w fun e w' => e = .returned (.int .i64 ((1 + sectorsN n : Nat) : Int)) ∧ w = w' := by
  have h : ((n : Int) + 511 - 1) / 511 = ((sectorsN n : Nat) : Int) := by unfold sectorsN; omega
  have h2 : ((n : Int) + 510) / 511 = ((sectorsN n : Nat) : Int) := by unfold sectorsN; omega
  have hb : sectorsN n ≤ 60000 := by unfold sectorsN; omega
  have e : ((1 + sectorsN n : Nat) : Int) = 1 + ((sectorsN n : Nat) : Int) := by omega
  rw [e]
  generalize sectorsN n = q at *
  go_enter Tryd.func13, Tryd.ntmps13
  go_wp2_with fail
  go_ret
  exact ⟨rfl, rfl⟩
set_option maxHeartbeats 1000000 in
theorem refAge (l : List Nat) (hl : l.length = 512) (h256 : ∀ c ∈ l, c < 256) (w : World) :
    Calls Tryd.prog 36 #[.string (bstr l)] w fun e w' => e = .returned (.int .i64 (rageL l)) ∧ Below w.heap.size w w' := by
  have hc1 := fun W => str_upto l 2 2 rfl (by omega) (by omega) W
  have hc2 := fun W => str_from l 2 2 rfl (by omega) (by omega) W
  have ht := texts_dec (l := l.take 2) (m := [76, 71]) (fun c hc => h256 c (List.mem_of_mem_take hc)) (by decide)
  rw [show bstr [76, 71] = (⟨#[76, 71]⟩ : ByteArray) from rfl, show (⟨#[76, 71]⟩ : ByteArray).toList = [76, 71] by rw [ByteArray.toList_eq]] at ht
  by_cases h2 : l.take 2 = [76, 71]
  · rw [decide_eq_true h2] at ht
    have htp := eq_of_beq ht
    have hd256 : ∀ c ∈ l.drop 2, c < 256 := fun c hc => h256 c (List.mem_of_mem_drop hc)
    have HR := Lib.hid (Wr.refIn_any w.heap.size 1 4611686018427387904 (bstr (l.drop 2)) 0 (w.alloc (.cells #[.string (bstr (l.drop 2)), .int .i64 0] 80)) (heap_alloc_new w _) (by rw [size_bstr, List.length_drop]; unfold maxLen; omega))
    have hbd : Wr.bytesOf (bstr (l.drop 2)) = l.drop 2 := bytesOf_bstr _ hd256
    rw [hbd] at HR
    obtain ⟨n, R, E, hn⟩ : ∃ n R E, Wr.readNum 1 4611686018427387904 (l.drop 2) 0 = (n, R, E) := ⟨_, _, _, rfl⟩
    have hage : rageL l = if E = 0 ∧ l = headL n then n else 0 := by
      unfold rageL
      rw [hn]
      simp only [h2, true_and]
    rw [hage]
    rw [hn] at HR
    have hnb : E = 0 → 1 ≤ n ∧ n ≤ 4611686018427387904 := fun he => by
      subst he
      exact readNum_le hn
    clear hbd hd256 hage hn h2
    by_cases hE : E = 0
    · subst hE
      obtain ⟨n1, n2⟩ := hnb rfl
      have HH := Lib.hid (fun W => refHead n (by omega) (by omega) W)
      have hd := texts_dec (l := l) (m := headL n) h256 (headL_lt n)
      have e0 : (if (0 : Int) = 0 ∧ l = headL n then n else 0) = if l = headL n then n else 0 := by simp
      rw [e0]
      by_cases hL : l = headL n
      · rw [decide_eq_true hL] at hd
        rw [if_pos hL]
        have hdn : (!((bstr l).toList == (bstr (headL n)).toList)) = false := by rw [hd]; rfl
        have hdp := eq_of_beq hd
        clear hL hnb e0
        generalize bstr (l.take 2) = s2 at *
        generalize bstr (l.drop 2) = s3 at *
        generalize bstr (headL n) = sh at *
        generalize bstr l = s at *
        go_enter Tryd.func36, Tryd.ntmps36
        go_wp2_with fail
        refine HR.out.mono ?_
        clear HR
        rintro e w1 ⟨rfl, ⟨s', _, hra⟩, hgr⟩
        have HB1 : Hid (Below w.heap.size w w1) := Lib.hid (((Below.refl w.heap.size w).alloc (Nat.le_refl _) _).grown hgr (by rw [size_alloc']; omega) (fun k hk => by obtain rfl := Option.some.inj hk; exact Nat.le_refl _))
        obtain ⟨x0, x1, _, _⟩ := Wr.RefAt.cells hra
        clear hgr
        go_wp2_with fail
        refine (HH.out _).mono ?_
        rintro e w2 ⟨rfl, hb⟩
        have HB2 := Lib.hid (Below.step hb HB1.out HB1.out.size)
        clear hb
        go_wp2_with fail
        go_ret
        exact ⟨rfl, HB2.out⟩
      · rw [decide_eq_false hL] at hd
        rw [if_neg hL]
        have hdp := ne_of_beq_false hd
        clear hL hnb e0
        generalize bstr (l.take 2) = s2 at *
        generalize bstr (l.drop 2) = s3 at *
        generalize bstr (headL n) = sh at *
        generalize bstr l = s at *
        go_enter Tryd.func36, Tryd.ntmps36
        go_wp2_with fail
        refine HR.out.mono ?_
        clear HR
        rintro e w1 ⟨rfl, ⟨s', _, hra⟩, hgr⟩
        have HB1 : Hid (Below w.heap.size w w1) := Lib.hid (((Below.refl w.heap.size w).alloc (Nat.le_refl _) _).grown hgr (by rw [size_alloc']; omega) (fun k hk => by obtain rfl := Option.some.inj hk; exact Nat.le_refl _))
        obtain ⟨x0, x1, _, _⟩ := Wr.RefAt.cells hra
        clear hgr
        go_wp2_with fail
        refine (HH.out _).mono ?_
        rintro e w2 ⟨rfl, hb⟩
        have HB2 := Lib.hid (Below.step hb HB1.out HB1.out.size)
        clear hb
        go_wp2_with fail
        go_ret
        exact ⟨rfl, HB2.out⟩
    · rw [if_neg (fun h => hE h.1)]
      have hEb : (E == 0) = false := by simpa using hE
      have hEn : (E != 0) = true := by simpa using hE
      clear hnb
      generalize bstr (l.take 2) = s2 at *
      generalize bstr (l.drop 2) = s3 at *
      generalize bstr l = s at *
      go_enter Tryd.func36, Tryd.ntmps36
      go_wp2_with fail
      refine HR.out.mono ?_
      clear HR
      rintro e w1 ⟨rfl, ⟨s', _, hra⟩, hgr⟩
      have HB1 : Hid (Below w.heap.size w w1) := Lib.hid (((Below.refl w.heap.size w).alloc (Nat.le_refl _) _).grown hgr (by rw [size_alloc']; omega) (fun k hk => by obtain rfl := Option.some.inj hk; exact Nat.le_refl _))
      obtain ⟨x0, x1, _, _⟩ := Wr.RefAt.cells hra
      clear hgr
      go_wp2_with fail
      go_ret
      exact ⟨rfl, HB1.out⟩
  · rw [decide_eq_false h2] at ht
    have htp := ne_of_beq_false ht
    have hage : rageL l = 0 := by
      unfold rageL
      rw [if_neg (fun h => h2 h.1)]
    rw [hage]
    generalize bstr (l.take 2) = s2 at *
    generalize bstr l = s at *
    clear h2 hage
    go_enter Tryd.func36, Tryd.ntmps36
    go_wp2_with fail
    go_ret
    exact ⟨rfl, Below.refl _ _⟩
end Go.Proofs.YtcmnfbpmkndfkaaDoor
namespace Go.Proofs.YtcmnfbpmkndfkaaDoor.Im
open Go.ChangeShapes Go.WideShapes Go.ChangeAt Go.RowKit Go.Deep
set_option linter.unusedVariables false

def vals (l : List Nat) : List Value := l.map fun (c : Nat) => Value.int .u8 (c : Int)
theorem vals_length (l : List Nat) : (vals l).length = l.length := List.length_map ..
theorem vals_get (l : List Nat) (i : Nat) (h : i < l.length) : (vals l)[i]? = some (.int .u8 ((l.getD i 0 : Nat) : Int)) := by
  simp [vals, List.getElem?_map, List.getElem?_eq_getElem h, List.getD]
theorem vals_append (l m : List Nat) : vals (l ++ m) = vals l ++ vals m := List.map_append
theorem strCells_vals (s : ByteArray) : Lib.strCells s = vals (bytesOf s) := by
  unfold Lib.strCells vals bytesOf
  rw [List.map_map]
  rfl
/-- the bytes of a disk -/
def img (L : List ByteArray) : List Nat := L.flatMap bytesOf
theorem img_succ (L : List ByteArray) (k : Nat) (h : k < L.length) : img (L.take (k + 1)) = img (L.take k) ++ bytesOf (L.getD k ⟨#[]⟩) := by
  unfold img
  rw [List.take_add_one, List.flatMap_append, List.getElem?_eq_getElem h, List.getD_eq_getElem?_getD, List.getElem?_eq_getElem h]
  simp
theorem img_lt (L : List ByteArray) : ∀ c ∈ img L, c < 256 := fun c hc => by
  obtain ⟨s, _, h⟩ := List.mem_flatMap.1 hc
  exact bytesOf_lt s c h
theorem img_made (w : World) (n : Nat) (hn : n ≤ maxLen) : (w.alloc (.cells (madeCells #[.int .u8 0] n) 5)).ownsRow w.heap.size 5 1 (.slice (some ⟨w.heap.size, 0, none⟩) 0 n) 0 (vals []) := by
  refine ⟨rfl, .inr ⟨w.heap.size, n, madeCells #[.int .u8 0] n, rfl, Nat.le_refl _, ?_, Nat.zero_le _, hn, ?_, rfl⟩⟩
  · show (w.heap.push _)[w.heap.size]? = _
    simp
  · simp [madeCells]
theorem byteRow_own {w : World} {base g n c : Nat} {l : List Nat} (h : w.ownsRow base 5 1 (.slice (some ⟨g, 0, none⟩) n c) n (vals l)) (hl : l.length = n) (hn : n ≤ maxLen) (h256 : ∀ c ∈ l, c < 256) : ByteRow w (some ⟨g, 0, none⟩) n l :=
  ⟨hl, hn, h256, fun _ => ⟨g, 0, rfl, fun i hi => by
    rw [Nat.zero_add, World.ownsRow.cellAt h i (by omega), vals_get l i (by omega)]⟩⟩

set_option maxRecDepth 100000 in
set_option maxHeartbeats 1000000 in
theorem image_any (w : World) (F : Nat → Prop) (p : Nat) (s : DSt) (h : DiskAt w F p s) (hn : s.L.length ≤ 65536) (hz : ∀ i, i < s.L.length → (s.L.getD i ⟨#[]⟩).size = 512) :
    Calls Tryd.prog 39 #[.pointer (some ⟨p, 0, none⟩)] w fun e w' => ∃ g c, e = .returned (.slice (some ⟨g, 0, none⟩) (s.L.length * 512) c) ∧ ByteRow w' (some ⟨g, 0, none⟩) (s.L.length * 512) (img s.L) ∧ w.heap.size ≤ g ∧ Below w.heap.size w w' ∧ s.L.length * 512 ≤ c ∧ c ≤ maxLen := by
  obtain ⟨i0, hi, hz0, hz1, hz2⟩ := info_parts info5
  have hlt := h.lts
  obtain ⟨lb, nb, lc, nc, wv, c0, c1, c2, cl, cn, _, hcap, hmx, _, _, hF, _⟩ := h.rows
  have HC := Lib.hid cl
  have hlb := hlt _ hF
  generalize s.L = L at *
  obtain ⟨m, hm⟩ : ∃ m, m = L.length := ⟨_, rfl⟩
  rw [← hm] at c0 HC hn hz ⊢
  have HM := Lib.hid hm
  have HZ := Lib.hid hz
  clear c1 c2 cl cn h hlt hF hcap hmx hm hz
  have hmk : ∀ u : World, (Instr.makeSlice 34 (.int .i64 0) (.int .i64 ((m : Int) * 512))).run Tryd.prog u =
      .ok (.slice (some ⟨u.heap.size, 0, none⟩) 0 (m * 512)) (u.alloc (.cells (madeCells #[.int .u8 0] (m * 512)) 5)) := fun u => by
    have h := run_make (P := Tryd.prog) u 34 5 i0 (.int .u8 0) Tryd.underlying34 hi hz0 .i64 .i64 0 ((m : Int) * 512) (by omega) (by omega) (by rw [hz2]; omega) (by omega)
    have e : ((m : Int) * 512).toNat = m * 512 := by omega
    rw [e] at h
    simpa [hz1, Value.cells] using h
  have HMD := Lib.hid (img_made w (m * 512) (by unfold maxLen; omega))
  have HB0 := Lib.hid ((Below.refl w.heap.size w).alloc (Nat.le_refl _) (.cells (madeCells #[.int .u8 0] (m * 512)) 5))
  have hcp := (HB0.out.cell (cell_lt c0)).trans c0
  generalize hW : (w.alloc (.cells (madeCells #[.int .u8 0] (m * 512)) 5)) = w1 at *
  have hmk1 := hmk w
  rw [hW] at hmk1
  clear hmk
  go_enter Tryd.func39, Tryd.ntmps39
  go_wp2_with fail
  go_loopw [20, 3] (fun u v wr => ∃ k g c : Nat, u = .int .i64 k ∧ v = .slice (some ⟨g, 0, none⟩) (k * 512) c ∧ k ≤ m ∧ Hid (wr.ownsRow w.heap.size 5 1 (.slice (some ⟨g, 0, none⟩) (k * 512) c) (k * 512) (vals (img (L.take k)))) ∧ Below w.heap.size w wr) (fun u _ _ => m - (intOf u).toNat)
  case atStart => exact ⟨0, w.heap.size, m * 512, rfl, rfl, Nat.zero_le _, HMD, HB0.out⟩
  case round =>
    obtain ⟨k, g, c, rfl, rfl, hk, HO, hb⟩ := hrel
    have HB := Lib.hid hb
    clear hb
    by_cases gk : k < m
    · have hcx := (HB.out.cell (p := ⟨lb, k, none⟩) hlb).trans (HC.out k gk)
      have hk0 : (0 : Int) ≤ (k : Int) := by omega
      have hkn : (k : Int) < (m : Int) := by omega
      have hsz := HZ.out k gk
      have HI := Lib.hid (img_succ L k (by have := HM.out; omega))
      generalize L.getD k ⟨#[]⟩ = x at *
      go_wp2_with (at_builtin; refine Lib.wpList_append_own_string _ rfl (.tmp 24) (.tmp 25) 34 9 rfl w.heap.size 5 i0 Tryd.underlying34 Tryd.underlying9 hi hz0 hz1 hz2 _ (k * 512) (vals (img (L.take k))) rfl HO.out x rfl ?c3 ?c4 ?c5 ?_)
      case c3 => unfold maxLen; omega
      case c4 => omega
      case c5 => exact HB.out.size
      intro v' w2 hown hgrow hnil
      have bel : Below w.heap.size w w2 := HB.out.grown hgrow HB.out.size (fun k hk => own_base HO.out hk)
      have hown' : w2.ownsRow w.heap.size 5 1 v' ((k + 1) * 512) (vals (img (L.take (k + 1)))) := by
        rw [HI.out, vals_append, ← strCells_vals, show (k + 1) * 512 = k * 512 + 512 by omega]
        exact hown
      obtain ⟨g2, c2, rfl, hg2⟩ := own_some hown' hnil
      have HO2 := Lib.hid hown'
      have HB2 := Lib.hid bel
      clear hown hgrow hnil bel hown'
      go_wp2_with fail
      go_roundw
      case rel => exact ⟨k + 1, g2, c2, by go_num, rfl, by omega, HO2, HB2.out⟩
      case measure => simp [intOf]; omega
    · obtain rfl : k = m := by omega
      have hg := own_base HO.out (k := g) rfl
      have hcc : k * 512 ≤ c ∧ c ≤ maxLen := by
        rcases HO.out.2 with ⟨e, _⟩ | ⟨_, _, _, e, _, _, h1, h2, _⟩
        · cases e
        · injection e with _ _ e
          subst e
          exact ⟨h1, h2⟩
      have HR : Hid (ByteRow wr (some ⟨g, 0, none⟩) (k * 512) (img L)) := Lib.hid (by
        have h := HO.out
        rw [HM.out, List.take_length] at h
        rw [HM.out]
        have hl : (img L).length = L.length * 512 := by
          have := h.1
          rw [vals_length] at this
          omega
        exact byteRow_own h hl (by unfold maxLen; have := HM.out; omega) (img_lt L))
      go_wp2_with fail
      go_ret
      exact ⟨g, c, rfl, HR.out, hg, HB.out, hcc.1, hcc.2⟩
end Go.Proofs.YtcmnfbpmkndfkaaDoor.Im
namespace Go.Proofs.YtcmnfbpmkndfkaaDoor
open Go.ChangeShapes Go.WideShapes Go.ChangeAt Go.RowKit Go.Deep
set_option linter.unusedVariables false
set_option maxRecDepth 100000

theorem headL_drop (n : Int) : ∃ R, (headL n).drop 2 = Wr.code n ++ R := by
  refine ⟨Cr.four (Cr.sum (76 :: 71 :: Wr.code n)) ++ List.replicate (512 - (closedL (76 :: 71 :: Wr.code n)).length) 0, ?_⟩
  unfold headL padL
  show (closedL (76 :: 71 :: Wr.code n) ++ _).drop 2 = _
  unfold closedL
  show (Wr.code n ++ Cr.four _) ++ _ = _
  rw [List.append_assoc]
theorem hage_of (n : Int) (h1 : 1 ≤ n) (h2 : n ≤ 9223372036854775807) : hageL (headL n) = n := by
  obtain ⟨R, e⟩ := headL_drop n
  unfold hageL
  rw [e, readNum_code 1 9223372036854775807 n (by omega) (by omega) (by omega) (by omega), if_pos rfl]
theorem rage_of (n : Int) (h1 : 1 ≤ n) (h2 : n ≤ 4611686018427387904) : rageL (headL n) = n := by
  obtain ⟨R, e⟩ := headL_drop n
  have e2 : (headL n).take 2 = [76, 71] := rfl
  unfold rageL
  rw [e, readNum_code 1 4611686018427387904 n (by omega) (by omega) (by omega) (by omega), if_pos ⟨e2, rfl, rfl⟩]
theorem rage_or (l : List Nat) : rageL l = 0 ∨ rageL l = hageL l := by
  by_cases h : l.take 2 = [76, 71] ∧ (Wr.readNum 1 4611686018427387904 (l.drop 2) 0).2.2 = 0 ∧ l = headL (Wr.readNum 1 4611686018427387904 (l.drop 2) 0).1
  · right
    have e : rageL l = (Wr.readNum 1 4611686018427387904 (l.drop 2) 0).1 := if_pos h
    obtain ⟨n, R, E, hn⟩ : ∃ n R E, Wr.readNum 1 4611686018427387904 (l.drop 2) 0 = (n, R, E) := ⟨_, _, _, rfl⟩
    rw [hn] at h e
    obtain ⟨_, h0, h2⟩ := h
    have h0 : E = 0 := h0
    subst h0
    obtain ⟨n1, n2⟩ := readNum_le hn
    have h2 : l = headL n := h2
    rw [e, h2]
    exact (hage_of n (by omega) (by omega)).symm
  · exact .inl (if_neg h)
theorem heads_max {N : List ByteArray} {s : LSt} (h : Heads N s) (hf : s.f = 2) : max (rageL (secAt N 2)) (rageL (secAt N 3)) = (s.age : Int) := by
  have h1 := h.here
  have h2 := h.other
  have h3 := h.pos
  have h4 := h.small
  rw [hf] at h1 h2
  have hr : rageL (headL (s.age : Int)) = (s.age : Int) := rage_of _ (by omega) (by omega)
  rcases Nat.eq_zero_or_pos s.head with e | e
  · rw [e] at h1 h2
    have e1 : secAt N 2 = headL (s.age : Int) := h1
    have e2 : hageL (secAt N 3) < (s.age : Int) := h2
    rw [e1, hr]
    rcases rage_or (secAt N 3) with g | g <;> rw [g] <;> omega
  · have e' : s.head = 1 := by have := h.head; omega
    rw [e'] at h1 h2
    have e1 : secAt N 3 = headL (s.age : Int) := h1
    have e2 : hageL (secAt N 2) < (s.age : Int) := h2
    rw [e1, hr]
    rcases rage_or (secAt N 2) with g | g <;> rw [g] <;> omega
theorem startL_drop4 (a n : Int) (B : List Nat) : ∃ R, (startL a n B).drop 1 = Wr.code a ++ (Wr.code n ++ (Wr.code (B.length : Int) ++ (Wr.code ((Cr.sum B : Nat) : Int) ++ R))) := by
  refine ⟨Cr.four (Cr.sum (recL a n B)) ++ List.replicate (512 - ((closedL (recL a n B)).length + 1)) 0, ?_⟩
  unfold startL
  rw [padL_cons]
  unfold closedL recL
  simp only [List.append_assoc]
/-- an older start isn't read as one of this age -/
theorem elder_read {age : Nat} {l : List Nat} (ha : age ≤ 4611686018427387904) (h : ∃ (a n : Nat) (B : List Nat), a < age ∧ l = startL (a : Int) (n : Int) B) (n1 : Int) (l1 : List Nat) (e1 : Int) (hr : Wr.readNum 1 4611686018427387904 (l.drop 1) 0 = (n1, l1, e1)) : e1 ≠ 0 ∨ n1 ≠ (age : Int) := by
  obtain ⟨a, n, B, hlt, rfl⟩ := h
  obtain ⟨R, e⟩ := startL_drop (a : Int) (n : Int) B
  rw [e] at hr
  by_cases h0 : 1 ≤ a
  · rw [readNum_code 1 4611686018427387904 (a : Int) (by omega) (by omega) (by omega) (by omega)] at hr
    injection hr with e1 e2
    right
    omega
  · left
    have := readNum_other 1 4611686018427387904 (a : Int) (by omega) (by omega) (.inl (by omega)) (Wr.code (n : Int) ++ (Wr.code (B.length : Int) ++ R))
    rw [hr] at this
    have this : e1 = 4 := this
    rw [this]; decide
theorem readNum_keep {lo hi x : Int} {l l' : List Nat} {e e' : Int} (h : Wr.readNum lo hi l e = (x, l', e')) (he : e ≠ 0) : e' ≠ 0 := by
  rw [readNum_err _ _ _ _ he] at h
  injection h with _ h
  injection h with _ h
  rw [← h]; exact he
theorem idx_str (s : ByteArray) (k : Nat) (hk : k < s.size) (hs : s.size ≤ 9223372036854775807) (W : World) :
    (Instr.index 9 (.string s) (.int .i64 (k : Int))).run Tryd.prog W = .ok (.int .u8 (((bytesOf s).getD k 0 : Nat) : Int)) W := by
  have e : (bytesOf s).getD k 0 = s[k].toNat := by
    have h : k < (bytesOf s).length := by rw [bytesOf_length]; exact hk
    have e : (bytesOf s).getD k 0 = (bytesOf s)[k] := by simp [List.getD, List.getElem?_eq_getElem h]
    rw [e]
    simp only [bytesOf, List.getElem_map, Array.getElem_toList]
    rfl
  rw [e]
  go_simp
theorem wpList_append_run {P : Program} {ops : Array Oper} {rest : List Oper} {o : Oper} {a : Act} {Q : Exit → Act → World → Prop} {W : World} (hgd : o.guard = none) (s x : Operand) (t u : TypeId) (ho : o.op = .call { callee := .builtin .append, args := #[s, x], argTypes := #[t, u] }) {v xv v' : Value} {W' : World} (hs : a.eval s = v) (hx : a.eval x = xv) (hr : (Builtin.append_ #[t, u] o.type #[v, xv]).run P W = .ok v' W') (h : wpList P ops Q rest (a.put o.dst v') W') : wpList P ops Q (o :: rest) a W := by
  refine wpList_plain hgd fun K hK => ?_
  unfold Oper.wp execOp
  simp only [ho, resolve, invoke, builtin, Sem.run_bind, Sem.run_pure, Result.andThen_ok, List.map_toArray, List.map_cons, List.map_nil, hs, hx, hr]
  exact hK _ _ h
theorem bytesL_cut (C : List Nat) (hC : C.length ≤ 511) (W : World) : (Instr.slice 9 (.string (bstr (bytesL C))) (some (.int .i64 1)) (some (.int .i64 (1 + (C.length : Int)))) none).run Tryd.prog W = .ok (.string (bstr C)) W := by
  have hl : (bytesL C).length = 512 := padL_length _ (by rw [List.length_cons]; omega)
  have hs : (bstr (bytesL C)).size = 512 := by rw [size_bstr, hl]
  have e : (bstr (bytesL C)).extract 1 (1 + C.length) = bstr C := by
    apply ByteArray.ext
    apply Array.ext'
    rw [ByteArray.data_extract]
    simp [bstr, bytesL, padL]
  rw [← e]
  generalize hm : C.length = m at *
  clear hm
  generalize bstr (bytesL C) = s at *
  have h1 : (1 : Int) + (m : Int) = ((1 + m : Nat) : Int) := by omega
  rw [h1]
  have h2 : (1 : Int) ≤ ((1 + m : Nat) : Int) := by omega
  have h3 : ((1 + m : Nat) : Int) ≤ 512 := by omega
  generalize 1 + m = q at *
  go_simp
theorem own_bytes {w : World} {base n : Nat} {v : Value} {l : List Nat} (h : w.ownsRow base 5 1 v n (Im.vals l)) (hl : ∀ c ∈ l, c < 256) (hm : n ≤ maxLen) :
    ∃ a cap, v = .slice a n cap ∧ ByteRow w a n l ∧ n ≤ cap ∧ (∀ x, a = some x → base ≤ x.block ∧ x.block < w.heap.size) := by
  have hlt := h.lt
  obtain ⟨h1, h2⟩ := h
  rw [Im.vals_length, Nat.mul_one] at h1
  rcases h2 with ⟨rfl, rfl⟩ | ⟨g, cap, cur, rfl, hb, hh, hn, hmx, hs, ht⟩
  · obtain rfl : l = [] := List.eq_nil_of_length_eq_zero h1
    exact ⟨none, 0, rfl, byteRow_nil w none, Nat.le_refl _, (fun x h => by cases h)⟩
  · refine ⟨some ⟨g, 0, none⟩, cap, rfl, ⟨h1, hm, hl, fun _ => ⟨g, 0, rfl, fun i hi => ?_⟩⟩, hn, fun x hx => ?_⟩
    · have e2 := Im.vals_get l i (by omega)
      rw [← ht, List.getElem?_take, if_pos (by omega)] at e2
      rw [Nat.zero_add]
      simp only [World.cell?, hh]
      simpa using e2
    · cases hx
      exact hlt g rfl
theorem own_start (w : World) : w.ownsRow w.heap.size 5 1 (.slice none 0 0) 0 (Im.vals []) := ⟨rfl, .inl ⟨rfl, rfl⟩⟩
theorem new_box (w : World) (cs : Array Value) (t : TypeId) (i : Nat) (v : Value) (h : cs[i]? = some v) : (w.alloc (.cells cs t)).cell? ⟨w.heap.size, i, none⟩ = some v := by
  have := Cr.cell_new w cs t (0, 0) _ i v rfl h
  exact this
theorem num_len {lo hi x : Int} {l l' : List Nat} {e e' : Int} (h : Wr.readNum lo hi l e = (x, l', e')) : l'.length ≤ l.length := by
  unfold Wr.readNum at h
  generalize Wr.dec 0 0 l = d at *
  split at h
  · injection h with _ h
    injection h with h _
    rw [← h]; exact Nat.le_refl _
  · split at h
    · injection h with _ h
      injection h with h _
      rw [← h]; exact Nat.le_refl _
    · split at h
      · injection h with _ h
        injection h with h _
        rw [← h]; exact Nat.le_refl _
      · injection h with _ h
        injection h with h _
        rw [← h, List.length_drop]; omega
end Go.Proofs.YtcmnfbpmkndfkaaDoor
namespace Go.Proofs.YtcmnfbpmkndfkaaDoor
open Go.ChangeShapes Go.WideShapes Go.ChangeAt Go.RowKit Go.Deep
set_option linter.unusedVariables false
set_option maxRecDepth 100000

/-- a row of sectors, as texts -/
def Secs (w : World) (g : Nat) (N : List ByteArray) : Prop := ∀ i, i < 14 → w.cell? ⟨g, i, none⟩ = some (.string (bstr (secAt N (2 + i))))
theorem Secs.below {w W : World} {g : Nat} {N : List ByteArray} (h : Secs w g N) (hb : Below w.heap.size w W) : Secs W g N := fun i hi => (hb.cell (p := ⟨g, i, none⟩) (cell_lt (h i hi))).trans (h i hi)
theorem idx_sec (g n c k : Nat) (z : Int) (hz : z = (k : Int)) (hk : k < n) (W : World) : (Instr.indexAt 33 (.slice (some ⟨g, 0, none⟩) n c) (.int .i64 z)).run Tryd.prog W = .ok (.pointer (some ⟨g, k, none⟩)) W := by
  subst hz
  have h1 : (0 : Int) ≤ (k : Int) := by omega
  have h2 : (k : Int) < (n : Int) := by omega
  go_simp
def ScanPost (w : World) (A : Nat) (R : List (List Nat)) (e : Ending) (w' : World) : Prop := ∃ v z, e = .returned (.tuple #[.int .i64 (A : Int), v, .int .i64 z]) ∧ TextsOf w' w.heap.size v R ∧ Below w.heap.size w w'
set_option maxHeartbeats 4000000 in
theorem scan_ok (w : World) (g c : Nat) (N : List ByteArray) (s : LSt) (R : List (List Nat)) (hg : Secs w g N) (hok : LogOK N s R) (hat : s.f = 2 ∧ s.c = 14) (hsz : ∀ i, i < N.length → (secAt N i).length = 512) (hN : N.length = 18) :
    Calls Tryd.prog 16 #[.slice (some ⟨g, 0, none⟩) 14 c] w (ScanPost w s.age R) := by
  have HG := Lib.hid hg
  have HOK := Lib.hid hok
  have HSZ := Lib.hid hsz
  have h256 : ∀ i, ∀ c ∈ secAt N i, c < 256 := fun i => bytesOf_lt _
  have H256 := Lib.hid h256
  have hpos := hok.heads.pos
  have hsmall := hok.heads.small
  obtain ⟨A, hA⟩ : ∃ A, A = s.age := ⟨_, rfl⟩
  have hmax := heads_max hok.heads hat.1
  have HAge0 := Lib.hid (fun W => refAge (secAt N 2) (hsz 2 (by omega)) (h256 2) W)
  have HAge1 := Lib.hid (fun W => refAge (secAt N 3) (hsz 3 (by omega)) (h256 3) W)
  rw [← hA] at hmax hpos hsmall ⊢
  have HA := Lib.hid hA
  have hA0 : ((A : Int) == 0) = false := by
    have : ¬ (A : Int) = 0 := by omega
    simpa using this
  have hi0 := fun W => idx_sec g 14 c 0 0 rfl (by decide) W
  have hi1 := fun W => idx_sec g 14 c 1 1 rfl (by decide) W
  have HC : Hid (∀ W, Gl w.drew W → W.cell? ⟨g, 0, none⟩ = some (.string (bstr (secAt N 2))) ∧ W.cell? ⟨g, 1, none⟩ = some (.string (bstr (secAt N 3)))) := Lib.hid (fun W hW => ⟨(hg.below hW.undrew) 0 (by decide), (hg.below hW.undrew) 1 (by decide)⟩)
  clear hg hok hsz h256 hA
  generalize rageL (secAt N 2) = a0 at *
  generalize rageL (secAt N 3) = a1 at *
  generalize bstr (secAt N 2) = t0 at *
  generalize bstr (secAt N 3) = t1 at *
  go_enter Tryd.func16, Tryd.ntmps16
  go_wp2_with fail
  refine wp_region_inv_lit [.is (.slice (some ⟨g, 0, none⟩) 14 c), .is (.pointer (some ⟨g, 0, none⟩)), .is (.string t0), .is (.int .i64 a0), .is (.slice (some ⟨g, 0, none⟩) 14 c), .is (.pointer (some ⟨g, 1, none⟩)), .is (.string t1), .is (.int .i64 a1), .is (.int .i64 (A : Int)), .is (.int .i64 (A : Int))] (by kernel_rfl) (by kernel_rfl) ?_
  iterate 3 (refine wpInv_is ?_ ?_; (focus (intro W hW hF K hK; clear hF; obtain ⟨d0, d1⟩ := HC.out W hW; go_simp; exact hK _ _ (Gl.refl _) rfl)); simp only [Act.put, List.setIfInBounds_toArray, List.set_cons_zero, List.set_cons_succ])
  refine wpInv_is ?_ ?_
  · intro W hW hF K hK
    clear hF
    go_simp
    refine (HAge0.out W).mono ?_
    rintro e w1 ⟨rfl, hb⟩
    exact ⟨_, rfl, hK _ _ hb rfl⟩
  simp only [Act.put, List.setIfInBounds_toArray, List.set_cons_zero, List.set_cons_succ]
  iterate 3 (refine wpInv_is ?_ ?_; (focus (intro W hW hF K hK; clear hF; obtain ⟨d0, d1⟩ := HC.out W hW; go_simp; exact hK _ _ (Gl.refl _) rfl)); simp only [Act.put, List.setIfInBounds_toArray, List.set_cons_zero, List.set_cons_succ])
  refine wpInv_is ?_ ?_
  · intro W hW hF K hK
    clear hF
    go_simp
    refine (HAge1.out W).mono ?_
    rintro e w1 ⟨rfl, hb⟩
    exact ⟨_, rfl, hK _ _ hb rfl⟩
  simp only [Act.put, List.setIfInBounds_toArray, List.set_cons_zero, List.set_cons_succ]
  iterate 2 (refine wpInv_is ?_ ?_; (focus (intro W hW hF K hK; clear hF; go_simp; exact hK _ _ (Gl.refl _) rfl)); simp only [Act.put, List.setIfInBounds_toArray, List.set_cons_zero, List.set_cons_succ])
  refine wpInv_end ?_
  intro w1 hW hF
  have HB1 := Lib.hid hW.undrew
  clear hW hF hmax HAge0 HAge1 HC hi0 hi1
  go_wp2_with fail
  go_loopw [6, 7] (fun v z wr => ∃ (done rest : List (List Nat)) (S : LSt), Hid (R = done ++ rest ∧ S = s.zero.through done ∧ IsRecs N S rest) ∧ z = .int .i64 (S.used : Int) ∧ S.used ≤ 14 ∧ Hid (S.number = done.length ∧ S.age = A ∧ S.f = 2 ∧ S.c = 14 ∧ done.length ≤ S.used) ∧ Hid (TextsOf wr w.heap.size v done) ∧ Below w.heap.size w wr) (fun _ z _ => 14 - (intOf z).toNat)
  case atStart => exact ⟨[], R, s.zero, Lib.hid ⟨rfl, rfl, HOK.out.recs⟩, rfl, (by decide : (2 : Nat) ≤ 14), Lib.hid ⟨rfl, HA.out.symm, hat.1, hat.2, Nat.zero_le _⟩, Lib.hid (texts_none _ _), HB1.out⟩
  case round =>
    obtain ⟨done, rest, S, HS, rfl, hu, HF, HT, hbel⟩ := hrel
    obtain ⟨wq, rfl⟩ : ∃ x, x = wr := ⟨_, rfl⟩
    have HB := Lib.hid hbel
    clear hbel
    by_cases hu14 : S.used < 14
    · have hui : (S.used : Int) < 14 := by omega
      have hLl := HSZ.out (2 + S.used) (by omega)
      have hL256 := H256.out (2 + S.used)
      have hcell := (HG.out.below HB.out) S.used hu14
      have hix := fun W => idx_sec g 14 c S.used (S.used : Int) rfl hu14 W
      obtain ⟨L, hL⟩ : ∃ L, L = secAt N (2 + S.used) := ⟨_, rfl⟩
      rw [← hL] at hLl hL256 hcell
      have HL := Lib.hid hL
      have hi72 := fun W => idx_str (bstr L) 0 (by rw [size_bstr, hLl]; decide) (by rw [size_bstr, hLl]; decide) W
      rw [bytesOf_bstr L hL256] at hi72
      obtain ⟨L0, hL0⟩ : ∃ L0, L0 = L.getD 0 0 := ⟨_, rfl⟩
      rw [← hL0] at hi72
      have HL0 := Lib.hid hL0
      have hi72' : ∀ W, (Instr.index 9 (.string (bstr L)) (.int .i64 0)).run Tryd.prog W = .ok (.int .u8 (L0 : Int)) W := hi72
      clear hL hL0 hi72
      by_cases h72 : L0 = 72
      · have h72b : ((L0 : Int) == 72) = true := by rw [h72]; decide
        have h72n : ((L0 : Int) != 72) = false := by rw [h72]; decide
        have hdr := fun W => str_from L 1 1 rfl (by omega) (by omega) W
        have hd256 : ∀ c ∈ L.drop 1, c < 256 := fun c hc => hL256 c (List.mem_of_mem_drop hc)
        obtain ⟨n1, l1, e1, r1⟩ : ∃ n1 l1 e1, Wr.readNum 1 4611686018427387904 (L.drop 1) 0 = (n1, l1, e1) := ⟨_, _, _, rfl⟩
        obtain ⟨n2, l2, e2, r2⟩ : ∃ n2 l2 e2, Wr.readNum 0 4611686018427387904 l1 e1 = (n2, l2, e2) := ⟨_, _, _, rfl⟩
        obtain ⟨n3, l3, e3, r3⟩ : ∃ n3 l3 e3, Wr.readNum 0 16777216 l2 e2 = (n3, l3, e3) := ⟨_, _, _, rfl⟩
        obtain ⟨n4, l4, e4, r4⟩ : ∃ n4 l4 e4, Wr.readNum 0 4294967296 l3 e3 = (n4, l4, e4) := ⟨_, _, _, rfl⟩
        have HRn := Lib.hid (And.intro r1 (And.intro r2 (And.intro r3 r4)))
        have hbd : Wr.bytesOf (bstr (L.drop 1)) = L.drop 1 := bytesOf_bstr _ hd256
        have HI1 := Lib.hid (Wr.refIn_any wq.heap.size 1 4611686018427387904 (bstr (L.drop 1)) 0 (wq.alloc (.cells #[.string (bstr (L.drop 1)), .int .i64 0] 80)) (heap_alloc_new wq _) (by rw [size_bstr, List.length_drop]; unfold maxLen; omega))
        rw [hbd, r1] at HI1
        have HI2 : Hid (∀ (W : World) (t : ByteArray), Wr.bytesOf t = l1 → t.size ≤ maxLen → Wr.RefAt W wq.heap.size t e1 → Calls Tryd.prog 37 #[.pointer (some ⟨wq.heap.size, 0, none⟩), .int .i64 0, .int .i64 4611686018427387904] W fun e' w' => e' = .returned (.int .i64 n2) ∧ (∃ s', Wr.bytesOf s' = l2 ∧ Wr.RefAt w' wq.heap.size s' e2) ∧ W.grownBy w' (some wq.heap.size)) := Lib.hid (fun W t h1 h2 h3 => by
          have := Wr.refIn_any wq.heap.size 0 4611686018427387904 t e1 W h3 h2
          rw [h1, r2] at this
          exact this)
        have HI3 : Hid (∀ (W : World) (t : ByteArray), Wr.bytesOf t = l2 → t.size ≤ maxLen → Wr.RefAt W wq.heap.size t e2 → Calls Tryd.prog 37 #[.pointer (some ⟨wq.heap.size, 0, none⟩), .int .i64 0, .int .i64 16777216] W fun e' w' => e' = .returned (.int .i64 n3) ∧ (∃ s', Wr.bytesOf s' = l3 ∧ Wr.RefAt w' wq.heap.size s' e3) ∧ W.grownBy w' (some wq.heap.size)) := Lib.hid (fun W t h1 h2 h3 => by
          have := Wr.refIn_any wq.heap.size 0 16777216 t e2 W h3 h2
          rw [h1, r3] at this
          exact this)
        have HI4 : Hid (∀ (W : World) (t : ByteArray), Wr.bytesOf t = l3 → t.size ≤ maxLen → Wr.RefAt W wq.heap.size t e3 → Calls Tryd.prog 37 #[.pointer (some ⟨wq.heap.size, 0, none⟩), .int .i64 0, .int .i64 4294967296] W fun e' w' => e' = .returned (.int .i64 n4) ∧ (∃ s', Wr.bytesOf s' = l4 ∧ Wr.RefAt w' wq.heap.size s' e4) ∧ W.grownBy w' (some wq.heap.size)) := Lib.hid (fun W t h1 h2 h3 => by
          have := Wr.refIn_any wq.heap.size 0 4294967296 t e3 W h3 h2
          rw [h1, r4] at this
          exact this)
        have HLen := Lib.hid (And.intro (num_len r1) (And.intro (num_len r2) (num_len r3)))
        have hdl : (L.drop 1).length ≤ 600 := by rw [List.length_drop]; omega
        have HDL := Lib.hid hdl
        clear r1 r2 r3 r4 hd256 hbd hdl
        generalize bstr (L.drop 1) = LD at *
        go_wp2_with fail
        refine HI1.out.mono ?_
        clear HI1
        rintro e w2 ⟨rfl, ⟨t1, ht1, ha1⟩, hg1⟩
        have HB2 : Hid (Below wq.heap.size wq w2) := Lib.hid (((Below.refl wq.heap.size wq).alloc (Nat.le_refl _) _).grown hg1 (by rw [size_alloc']; omega) (fun k hk => by obtain rfl := Option.some.inj hk; exact Nat.le_refl _))
        have HC2 := Lib.hid (HI2.out w2 t1 ht1 (by rw [← Wr.bytesOf_length, ht1]; have := HLen.out; have := HDL.out; unfold maxLen; omega) ha1)
        clear hg1 ha1 HI2 ht1
        go_wp2_with fail
        refine HC2.out.mono ?_
        clear HC2
        rintro e w3 ⟨rfl, ⟨t2, ht2, ha2⟩, hg2⟩
        have HB3 : Hid (Below wq.heap.size wq w3) := Lib.hid (HB2.out.grown hg2 HB2.out.size (fun k hk => by obtain rfl := Option.some.inj hk; exact Nat.le_refl _))
        have HC3 := Lib.hid (HI3.out w3 t2 ht2 (by rw [← Wr.bytesOf_length, ht2]; have := HLen.out; have := HDL.out; unfold maxLen; omega) ha2)
        clear hg2 ha2 HI3 ht2
        go_wp2_with fail
        refine HC3.out.mono ?_
        clear HC3
        rintro e w4 ⟨rfl, ⟨t3, ht3, ha3⟩, hg3⟩
        have HB4 : Hid (Below wq.heap.size wq w4) := Lib.hid (HB3.out.grown hg3 HB3.out.size (fun k hk => by obtain rfl := Option.some.inj hk; exact Nat.le_refl _))
        have HC4 := Lib.hid (HI4.out w4 t3 ht3 (by rw [← Wr.bytesOf_length, ht3]; have := HLen.out; have := HDL.out; unfold maxLen; omega) ha3)
        clear hg3 ha3 HI4 ht3
        go_wp2_with fail
        refine HC4.out.mono ?_
        clear HC4
        rintro e w5 ⟨rfl, ⟨t4, _, ha4⟩, hg4⟩
        have HB5 : Hid (Below wq.heap.size wq w5) := Lib.hid (HB4.out.grown hg4 HB4.out.size (fun k hk => by obtain rfl := Option.some.inj hk; exact Nat.le_refl _))
        obtain ⟨_, x1, _, _⟩ := Wr.RefAt.cells ha4
        clear hg4 ha4 HB2 HB3 HB4 HLen HDL
        cases rest with
        | nil =>
          have hRd : R = done := by
            have := HS.out.1
            rw [List.append_nil] at this
            exact this
          have HRd := Lib.hid hRd
          have hSs : S = s := by
            have h1 := HS.out.2.1
            have h2 := HOK.out.th
            rw [hRd, ← h1] at h2
            exact h2.symm
          have hold := HOK.out.old S.used (by rw [hSs]; exact Nat.le_refl _) (by rw [hat.2]; exact hu14)
          rw [hat.1, ← HL.out] at hold
          have hbad : e4 ≠ 0 ∨ n1 ≠ (A : Int) := by
            obtain ⟨r1, r2, r3, r4⟩ := HRn.out
            rcases hold with h | h
            · exfalso
              apply h
              have : L[0]? = some (L.getD 0 0) := by rw [List.getD_eq_getElem?_getD, List.getElem?_eq_getElem (by omega)]; rfl
              rw [this, ← HL0.out, h72]
            · rcases elder_read (by rw [← HA.out]; omega) h n1 l1 e1 r1 with h | h
              · exact .inl (readNum_keep r4 (readNum_keep r3 (readNum_keep r2 h)))
              · exact .inr (by rw [HA.out]; exact h)
          clear hold hRd hSs
          by_cases he4 : e4 = 0
          · subst he4
            have hn1 : n1 ≠ (A : Int) := hbad.resolve_left (fun h => h rfl)
            have hn1b : (n1 == (A : Int)) = false := by simpa using hn1
            have hn1n : (n1 != (A : Int)) = true := by simpa using hn1
            clear hbad
            go_wp2_with fail
            go_ret3
            exact ⟨_, _, rfl, by rw [HRd.out]; exact HT.out.below HB5.out, Below.step HB5.out HB.out HB.out.size⟩
          · have he4b : (e4 == 0) = false := by simpa using he4
            have he4n : (e4 != 0) = true := by simpa using he4
            clear hbad
            go_wp2_with fail
            go_ret3
            exact ⟨_, _, rfl, by rw [HRd.out]; exact HT.out.below HB5.out, Below.step HB5.out HB.out HB.out.size⟩
        | cons B rest =>
          obtain ⟨oa, oc, rfl, _⟩ := HT.out.trows
          have hrec := HS.out.2.2.1
          have hused := isrec_used hrec
          rw [HF.out.2.2.2.1] at hused
          have hB256 := hrec.2.2.1
          have hLs : L = startL (A : Int) (S.number : Int) B := by
            have h5 := hrec.2.2.2.2.1
            rw [HL.out, ← HF.out.2.1, ← h5]
            unfold LSt.start
            rw [HF.out.2.2.1]
            rfl
          have hBl : B.length ≤ 7000 := by unfold sectorsN at hused; omega
          have hsum := sum_lt B hB256
          have hvals : n1 = (A : Int) ∧ n2 = (S.number : Int) ∧ n3 = (B.length : Int) ∧ e4 = 0 := by
            obtain ⟨r1, r2, r3, r4⟩ := HRn.out
            obtain ⟨Rr, e⟩ := startL_drop4 (A : Int) (S.number : Int) B
            have hnum := HF.out
            rw [hLs, e, readNum_code 1 4611686018427387904 (A : Int) (by omega) (by omega) (by omega) (by omega)] at r1
            injection r1 with g1 r1
            injection r1 with r1 g2
            subst g1 r1 g2
            rw [readNum_code 0 4611686018427387904 (S.number : Int) (by omega) (by omega) (by omega) (by omega)] at r2
            injection r2 with g1 r2
            injection r2 with r2 g2
            subst g1 r2 g2
            rw [readNum_code 0 16777216 (B.length : Int) (by omega) (by omega) (by omega) (by omega)] at r3
            injection r3 with g1 r3
            injection r3 with r3 g2
            subst g1 r3 g2
            rw [readNum_code 0 4294967296 ((Cr.sum B : Nat) : Int) (by omega) (by omega) (by omega) (by omega)] at r4
            injection r4 with g1 r4
            injection r4 with r4 g2
            exact ⟨rfl, rfl, rfl, g2.symm⟩
          obtain ⟨rfl, rfl, rfl, rfl⟩ := hvals
          obtain ⟨D, hD⟩ : ∃ D, D = 1 + sectorsN B.length := ⟨_, rfl⟩
          have HNeed := Lib.hid (fun W => refNeed B.length (by omega) W)
          rw [← hD] at HNeed hused
          have HD := Lib.hid hD
          have hfit : (D : Int) ≤ 14 - (S.used : Int) := by omega
          have hnd : S.number = done.length := HF.out.1
          rw [hnd] at hLs
          have HLs := Lib.hid hLs
          have HB256 := Lib.hid hB256
          have HFi := Lib.hid (fun W => refFirst (A : Int) (done.length : Int) B (by omega) (by have := HF.out; omega) hB256 (by omega) W)
          rw [← hLs] at HFi
          have HRec := Lib.hid hrec
          obtain ⟨BL, hBLn⟩ : ∃ n, n = B.length := ⟨_, rfl⟩
          rw [← hBLn] at HNeed hBl ⊢
          have HBL := Lib.hid hBLn
          rw [hnd]
          clear hsum hD hLs hB256 hrec hBLn hnd
          obtain ⟨i0, hi, hz0, hz1, hz2⟩ := info_parts Cr.info5
          go_wp2_with fail
          refine (HNeed.out _).mono ?_
          rintro e w6 ⟨rfl, rfl⟩
          go_wp2_with fail
          have hw0 := own_start w5
          go_loopw [13, 14, 15] (fun b gd z wr => ∃ kk : Nat, gd = .bool true ∧ z = .int .i64 (kk : Int) ∧ 1 ≤ kk ∧ kk ≤ D ∧ Hid (wr.ownsRow w5.heap.size 5 1 b (min (511 * (kk - 1)) BL) (Im.vals (B.take (511 * (kk - 1))))) ∧ Below w5.heap.size w5 wr) (fun _ _ z _ => 14 - (intOf z).toNat)
          case atStart => exact ⟨1, rfl, rfl, Nat.le_refl _, by have := HD.out; omega, Lib.hid (by simpa using hw0), Below.refl _ _⟩
          case round =>
            obtain ⟨kk, rfl, rfl, hk1, hkD, HOb, hbel⟩ := hrel
            have HBb := Lib.hid hbel
            clear hbel hw0
            go_wp2_with fail
            refine (HNeed.out _).mono ?_
            rintro e w7 ⟨rfl, rfl⟩
            by_cases hkk : kk < D
            · have hkki : (kk : Int) < (D : Int) := by omega
              obtain ⟨j, rfl⟩ : ∃ j, kk = j + 1 := ⟨kk - 1, by omega⟩
              rw [Nat.add_sub_cancel] at HOb
              have hjB : 511 * j < BL := by have := HD.out; have := HBL.out; unfold sectorsN at *; omega
              obtain ⟨C, hC⟩ : ∃ C, C = (B.drop (511 * j)).take 511 := ⟨_, rfl⟩
              have hCl : C.length = min 511 (BL - 511 * j) := by rw [hC, List.length_take, List.length_drop, ← HBL.out]
              obtain ⟨m, hm⟩ : ∃ m, m = C.length := ⟨_, rfl⟩
              have hC256 : ∀ c ∈ C, c < 256 := fun c hc => by
                rw [hC] at hc
                exact HB256.out c (List.mem_of_mem_drop (List.mem_of_mem_take hc))
              have hq : min (511 * j) BL = 511 * j := by omega
              rw [hq] at HOb
              obtain ⟨ba, bc, rfl, _⟩ := own_bytes HOb.out (fun c hc => HB256.out c (List.mem_of_mem_take hc)) (by unfold maxLen; omega)
              have hmin : min (511 : Int) ((BL : Int) - ((511 * j : Nat) : Int)) = (m : Int) := by omega
              have hsec : secAt N (2 + (S.used + (j + 1))) = bytesL C := by
                have hP := (HRec.out.2.2.2.1 j (by rw [← HBL.out]; exact hjB)).2
                rw [HF.out.2.2.1] at hP
                unfold secAt
                rw [show 2 + (S.used + (j + 1)) = 2 + S.used + 1 + j by omega, hP, hC]
              have hcl := ((HG.out.below HB.out).below HB5.out).below HBb.out (S.used + (j + 1)) (by omega)
              rw [hsec] at hcl
              have hidx := fun W => idx_sec g 14 c (S.used + (j + 1)) ((S.used : Int) + ((j + 1 : Nat) : Int)) (by omega) (by omega) W
              have hcut := fun W => bytesL_cut C (by omega) W
              have hap : (⟨#[68]⟩ : ByteArray) ++ bstr C = bstr (68 :: C) := bstr_cat [68] C
              have hCs : (bstr C).size = m := by rw [size_bstr, ← hm]
              have HPad := Lib.hid (fun W => refPad (68 :: C) (fun c hc => by
                rcases List.mem_cons.1 hc with rfl | hc
                · decide
                · exact hC256 c hc) (by rw [List.length_cons]; omega) W)
              have hpe : bstr (padL (68 :: C)) = bstr (bytesL C) := rfl
              rw [hpe] at HPad
              rw [← hm] at hcut
              have hm511 : m ≤ 511 := by omega
              have hstr : Lib.strCells (bstr C) = Im.vals C := by rw [Im.strCells_vals, bytesOf_bstr C hC256]
              have HC := Lib.hid (And.intro hC (And.intro hCl hm))
              have HOb' := HOb
              have HIdx := Lib.hid (And.intro hcl hidx)
              clear hC hCl hm hC256 hpe hsec hcl hidx hq
              generalize bstr (68 :: C) = s68 at *
              generalize bstr (bytesL C) = pS at *
              generalize hbC : bstr C = bC at *
              generalize hqj : 511 * j = q at *
              have HQJ := Lib.hid hqj
              clear hqj
              obtain ⟨hcl, hidx⟩ := HIdx.out
              clear HIdx
              go_wp2_with fail
              refine (HPad.out _).mono ?_
              clear HPad
              rintro e w8 ⟨rfl, hb8⟩
              have HB8 := Lib.hid (Below.step hb8 HBb.out HBb.out.size)
              have HOb8 := Lib.hid (own_below HOb.out hb8)
              clear hb8 hcl hidx
              go_wp2_with (at_builtin; refine Lib.wpList_append_own_string _ rfl (.tmp 105) (.tmp 109) 34 9 rfl w5.heap.size 5 i0 Tryd.underlying34 Tryd.underlying9 hi hz0 hz1 hz2 _ q (Im.vals (B.take q)) rfl HOb8.out bC rfl ?c3 ?c4 ?c5 ?_)
              case c3 => unfold maxLen; omega
              case c4 => omega
              case c5 => exact HB8.out.size
              intro v' w9 hown hgrow hnil
              have HB9 : Hid (Below w5.heap.size w5 w9) := Lib.hid (HB8.out.grown hgrow HB8.out.size (fun k hk => own_base HOb8.out hk))
              have hown' : w9.ownsRow w5.heap.size 5 1 v' (min (511 * ((j + 1 + 1) - 1)) BL) (Im.vals (B.take (511 * ((j + 1 + 1) - 1)))) := by
                obtain ⟨g1, g2, g3⟩ := HC.out
                have g4 := HQJ.out
                rw [Nat.add_sub_cancel, show min (511 * (j + 1)) BL = q + m by omega, show 511 * (j + 1) = q + 511 by omega, List.take_add, Im.vals_append, ← g1]
                exact hown
              have HOb9 := Lib.hid hown'
              clear hown hown' hgrow hnil
              go_wp2_with fail
              go_roundw
              case rel => exact ⟨j + 1 + 1, rfl, by go_num, by omega, by omega, HOb9, HB9.out⟩
              case measure => simp [intOf]; omega
            · obtain rfl : kk = D := by omega
              have hDB : BL ≤ 511 * (kk - 1) := by have := HD.out; have := HBL.out; unfold sectorsN at *; omega
              have HOb2 := Lib.hid HOb.out
              rw [show min (511 * (kk - 1)) BL = BL by omega, List.take_of_length_le (by rw [← HBL.out]; exact hDB)] at HOb2
              obtain ⟨ba, bc, rfl, hrow, _⟩ := own_bytes HOb2.out HB256.out (by unfold maxLen; omega)
              have hcv := conv_row bc hrow
              have HRow := Lib.hid hrow
              clear hrow hDB
              go_wp2_with fail
              refine (HFi.out _).mono ?_
              rintro e w8 ⟨rfl, hb8⟩
              have HB8 := Lib.hid (Below.step hb8 HBb.out HBb.out.size)
              have hcv2 := conv_row bc (HRow.out.below hb8)
              have HW8 : Hid (Below wq.heap.size wq w8) := Lib.hid (Below.step HB8.out HB5.out HB5.out.size)
              have HTx := Lib.hid (HT.out.below HW8.out)
              obtain ⟨nv, W9, hr, htx, hbl⟩ := run_snoc_texts (w8.alloc (.cells #[.string (bstr B)] 9)) 33 w.heap.size w8.heap.size (.slice oa done.length oc) done B (HTx.out.below ((Below.refl _ _).alloc (Nat.le_refl _) _)).1 HTx.out.2.1 HB256.out (new_box _ _ _ _ _ rfl) (by have := HF.out; omega) (by rw [size_alloc']; have := HB.out.size; have := HW8.out.size; omega)
              have HTx9 := Lib.hid htx
              have HB9 : Hid (Below w.heap.size w W9) := Lib.hid ((((Below.step HW8.out HB.out HB.out.size)).alloc (Nat.le_trans HB.out.size HW8.out.size) _).trans hbl)
              clear hb8 hcv htx hbl
              have HR := Lib.hid hr
              clear hr
              go_wp2_with (at_builtin; refine wpList_append_run rfl (.tmp 122) (.tmp 125) 33 33 rfl rfl rfl HR.out ?_)
              go_wp2_with fail
              refine (HNeed.out _).mono ?_
              rintro e w10 ⟨rfl, rfl⟩
              go_wp2_with fail
              go_roundw
              case rel => exact ⟨done ++ [B], rest, S.passed B.length, Lib.hid ⟨by rw [HS.out.1, List.append_assoc]; rfl, by rw [through_snoc, HS.out.2.1], HS.out.2.2.2⟩, by rw [HD.out]; go_num, by show S.used + (1 + sectorsN B.length) ≤ 14; rw [← HD.out]; omega, Lib.hid ⟨by rw [List.length_append]; show S.number + 1 = _; rw [HF.out.1]; rfl, HF.out.2.1, HF.out.2.2.1, HF.out.2.2.2.1, by rw [List.length_append]; have := HF.out.2.2.2.2; show _ ≤ S.used + (1 + sectorsN B.length); simp; omega⟩, HTx9, HB9.out⟩
              case measure => simp [intOf]; omega
      · have h72b : ((L0 : Int) == 72) = false := by
          have : ¬ (L0 : Int) = 72 := by omega
          simpa using this
        have h72n : ((L0 : Int) != 72) = true := by
          have : ¬ (L0 : Int) = 72 := by omega
          simpa using this
        have hrest : rest = [] := by
          cases rest with
          | nil => rfl
          | cons B rest =>
            exfalso
            have h5 := HS.out.2.2.1.2.2.2.2.1
            apply h72
            have e : L = startL (S.age : Int) (S.number : Int) B := by
              rw [HL.out, ← h5]
              unfold LSt.start
              rw [HF.out.2.2.1]
              rfl
            rw [HL0.out, e]
            rfl
        have hRd : R = done := by
          have := HS.out.1
          rw [hrest, List.append_nil] at this
          exact this
        have HRd := Lib.hid hRd
        clear hrest hRd h72
        go_wp2_with fail
        go_ret3
        exact ⟨_, _, rfl, by rw [HRd.out]; exact HT.out, HB.out⟩
    · have hrest : rest = [] := by
        cases rest with
        | nil => rfl
        | cons B rest =>
          exfalso
          have h5 := HS.out.2.2.1.1
          have := HF.out
          omega
      have hRd : R = done := by
        have := HS.out.1
        rw [hrest, List.append_nil] at this
        exact this
      have HRd := Lib.hid hRd
      clear hrest hRd
      have hu' : ¬ (S.used : Int) < 14 := by omega
      go_wp2_with fail
      go_ret3
      exact ⟨_, _, rfl, by rw [HRd.out]; exact HT.out, HB.out⟩
end Go.Proofs.YtcmnfbpmkndfkaaDoor
namespace Go.Proofs.YtcmnfbpmkndfkaaDoor
open Go.ChangeShapes Go.WideShapes Go.ChangeAt Go.RowKit Go.Deep
set_option linter.unusedVariables false
set_option maxRecDepth 100000

theorem img_getD : ∀ (L : List ByteArray) (k j : Nat), (∀ i, i < L.length → (L.getD i ⟨#[]⟩).size = 512) → k < L.length → j < 512 → (Im.img L).getD (512 * k + j) 0 = (bytesOf (L.getD k ⟨#[]⟩)).getD j 0
  | [], k, j, _, hk, _ => absurd hk (Nat.not_lt_zero _)
  | x :: L, 0, j, hs, _, hj => by
    have hx : x.size = 512 := hs 0 (Nat.zero_lt_succ _)
    show (bytesOf x ++ Im.img L).getD (512 * 0 + j) 0 = (bytesOf x).getD j 0
    rw [Nat.mul_zero, Nat.zero_add, List.getD_eq_getElem?_getD, List.getElem?_append_left (by rw [bytesOf_length, hx]; exact hj), List.getD_eq_getElem?_getD]
  | x :: L, k + 1, j, hs, hk, hj => by
    have hx : x.size = 512 := hs 0 (Nat.zero_lt_succ _)
    have hk' : k < L.length := by rw [List.length_cons] at hk; omega
    have ih := img_getD L k j (fun i hi => hs (i + 1) (by rw [List.length_cons]; omega)) hk' hj
    show (bytesOf x ++ Im.img L).getD (512 * (k + 1) + j) 0 = (bytesOf (L.getD k ⟨#[]⟩)).getD j 0
    rw [← ih, List.getD_eq_getElem?_getD, List.getElem?_append_right (by rw [bytesOf_length, hx]; omega), List.getD_eq_getElem?_getD, bytesOf_length, hx]
    congr 2
    omega
theorem sliceLH (b o len cap l h : Nat) (zl zh : Int) (e1 : zl = (l : Int)) (e2 : zh = (h : Int)) (h1 : l < h) (h2 : h ≤ cap) (hc : cap ≤ maxLen) (w : World) : (Instr.slice 34 (.slice (some ⟨b, o, none⟩) len cap) (some (.int .i64 zl)) (some (.int .i64 zh)) none).run Tryd.prog w = .ok (.slice (some ⟨b, o + l, none⟩) (h - l) (cap - l)) w := by
  subst e1 e2
  rw [run_slice_lh w 34 (some ⟨b, o, none⟩) len cap (by kernel_rfl) .i64 .i64 (l : Int) (h : Int) (by omega) (by omega) (by omega)]
  go_simp
  omega
/-- the texts of a log's sectors -/
def secsL (N : List ByteArray) (n : Nat) : List (List Nat) := (List.range n).map fun i => secAt N (2 + i)
theorem secsL_length (N : List ByteArray) (n : Nat) : (secsL N n).length = n := by unfold secsL; simp
theorem secsL_succ (N : List ByteArray) (n : Nat) : secsL N (n + 1) = secsL N n ++ [secAt N (2 + n)] := by
  unfold secsL
  rw [List.range_succ, List.map_append]
  rfl
theorem secsL_get (N : List ByteArray) (n i : Nat) (h : i < n) : (secsL N n).getD i [] = secAt N (2 + i) := by
  unfold secsL
  rw [List.getD_eq_getElem?_getD, List.getElem?_map, List.getElem?_range h]
  rfl
theorem secsL_256 (N : List ByteArray) (n : Nat) : ∀ B ∈ secsL N n, ∀ c ∈ B, c < 256 := fun B hB => by
  unfold secsL at hB
  obtain ⟨i, _, rfl⟩ := List.mem_map.1 hB
  exact bytesOf_lt _
def SecsPost (w : World) (N : List ByteArray) (e : Ending) (w' : World) : Prop := ∃ g c, e = .returned (.slice (some ⟨g, 0, none⟩) 14 c) ∧ Secs w' g N ∧ Below w.heap.size w w'
set_option maxHeartbeats 1000000 in
theorem sectors_any (w : World) (F : Nat → Prop) (p : Nat) (d : DSt) (h : DiskAt w F p d) (hn : d.L.length = 18) (hz : ∀ i, i < d.L.length → (d.L.getD i ⟨#[]⟩).size = 512) :
    Calls Tryd.prog 17 #[.pointer (some ⟨p, 0, none⟩)] w (SecsPost w d.L) := by
  have HIm := Lib.hid (Im.image_any w F p d h (by omega) hz)
  rw [hn] at HIm
  have HZ := Lib.hid hz
  have HN := Lib.hid hn
  clear h hn hz
  go_enter Tryd.func17, Tryd.ntmps17
  go_wp2_with fail
  refine HIm.out.mono ?_
  clear HIm
  rintro e w1 ⟨g, c, rfl, hrow, _, hb, hc1, hc2⟩
  have HRow := Lib.hid hrow
  have HB1 := Lib.hid hb
  clear hrow hb
  go_wp2_with fail
  go_loopw [4, 5] (fun v i wr => ∃ k : Nat, i = .int .i64 (k : Int) ∧ k ≤ 14 ∧ Hid (TextsOf wr w1.heap.size v (secsL d.L k)) ∧ Below w1.heap.size w1 wr) (fun _ i _ => 14 - (intOf i).toNat)
  case atStart => exact ⟨0, rfl, by omega, Lib.hid (texts_none _ _), Below.refl _ _⟩
  case round =>
    obtain ⟨k, rfl, hk, HT, hbel⟩ := hrel
    have HB := Lib.hid hbel
    clear hbel
    by_cases hk14 : k < 14
    · have hki : (k : Int) < 14 := by omega
      obtain ⟨lo, hlo⟩ : ∃ lo, lo = (2 + k) * 512 := ⟨_, rfl⟩
      have e1 : (2 + (k : Int)) * 512 = (lo : Int) := by omega
      have e2 : (2 + (k : Int) + 1) * 512 = ((lo + 512 : Nat) : Int) := by omega
      have h3 : lo + 512 ≤ c := by omega
      have h4 : lo < lo + 512 := by omega
      have hsl := fun W => sliceLH g 0 9216 c lo (lo + 512) ((2 + (k : Int)) * 512) ((2 + (k : Int) + 1) * 512) e1 e2 h4 h3 hc2 W
      rw [show lo + 512 - lo = 512 by omega] at hsl
      have hrow : ByteRow wr (some ⟨g, 0 + lo, none⟩) 512 (secAt d.L (2 + k)) := by
        refine ⟨by unfold secAt; rw [bytesOf_length]; exact HZ.out (2 + k) (by rw [HN.out]; omega), by decide, bytesOf_lt _, fun _ => ⟨g, 0 + lo, rfl, fun j hj => ?_⟩⟩
        obtain ⟨b', o', e, hc⟩ := (HRow.out.below HB.out).2.2.2 (by decide)
        injection e with e
        injection e with e1 e2
        subst e1 e2
        have := hc (512 * (2 + k) + j) (by omega)
        rw [img_getD d.L (2 + k) j HZ.out (by rw [HN.out]; omega) hj] at this
        rw [show 0 + lo + j = 0 + (512 * (2 + k) + j) by omega]
        exact this
      have hcv := conv_row (c - lo) hrow
      rw [Nat.zero_add] at hcv hsl
      have h256 : ∀ c ∈ secAt d.L (2 + k), c < 256 := bytesOf_lt _
      obtain ⟨nv, W9, hr, htx, hbl⟩ := run_snoc_texts (wr.alloc (.cells #[.string (bstr (secAt d.L (2 + k)))] 9)) 33 w1.heap.size wr.heap.size _ (secsL d.L k) (secAt d.L (2 + k)) (HT.out.below ((Below.refl _ _).alloc (Nat.le_refl _) _)).1 HT.out.2.1 h256 (new_box _ _ _ _ _ rfl) (by rw [secsL_length]; omega) (by rw [size_alloc']; have := HB.out.size; omega)
      rw [← secsL_succ] at htx
      have HTx := Lib.hid htx
      have HB9 : Hid (Below w1.heap.size w1 W9) := Lib.hid ((HB.out.alloc HB.out.size _).trans hbl)
      have HR := Lib.hid hr
      clear hr htx hbl hlo e1 e2 h3 h4 hrow h256
      generalize bstr (secAt d.L (2 + k)) = t at *
      go_wp2_with (at_builtin; refine wpList_append_run rfl (.tmp 12) (.tmp 23) 33 33 rfl rfl rfl HR.out ?_)
      go_wp2_with fail
      go_roundw
      case rel => exact ⟨k + 1, by go_num, by omega, HTx, HB9.out⟩
      case measure => simp [intOf]; omega
    · obtain rfl : k = 14 := by omega
      obtain ⟨a, c', rfl, htr⟩ := HT.out.trows
      rw [secsL_length] at *
      have HTr := Lib.hid htr
      clear htr
      go_wp2_with fail
      go_ret
      obtain ⟨g', rfl, _⟩ := HTr.out 0 (by rw [secsL_length]; decide)
      refine ⟨g', c', rfl, fun i hi => ?_, Below.step HB.out HB1.out HB1.out.size⟩
      obtain ⟨g2, e, hc, _⟩ := HTr.out i (by rw [secsL_length]; exact hi)
      injection e with e
      injection e with e
      subst e
      rw [secsL_get d.L 14 i hi] at hc
      exact hc
end Go.Proofs.YtcmnfbpmkndfkaaDoor
namespace Go.Proofs.YtcmnfbpmkndfkaaDoor
open Go.ChangeShapes Go.WideShapes Go.ChangeAt Go.RowKit Go.Deep
set_option linter.unusedVariables false
set_option maxRecDepth 100000

theorem idx_trow' (g n c k : Nat) (hk : k < n) (W : World) : (Instr.indexAt 33 (.slice (some ⟨g, 0, none⟩) n c) (.int .i64 (k : Int))).run Tryd.prog W = .ok (.pointer (some ⟨g, k, none⟩)) W := idx_trow g n c k hk W
theorem run_snoc_rows (W : World) (ty : TypeId) (base g gb cb : Nat) (v : Value) (R : List (List Nat)) (B : List Nat) (h : RowsOf W base v R) (hb : ByteRow W (some ⟨gb, 0, none⟩) B.length B) (hg : W.cell? ⟨g, 0, none⟩ = some (.slice (some ⟨gb, 0, none⟩) B.length cb)) (hl : R.length ≤ 1000) (hbase : base ≤ W.heap.size) :
    ∃ v' W', (Builtin.append_ #[38, 38] ty #[v, .slice (some ⟨g, 0, none⟩) 1 1]).run Tryd.prog W = .ok v' W' ∧ RowsOf W' base v' (R ++ [B]) ∧ Below base W W' := by
  obtain ⟨i0, hi, hz0, hz1, hz2⟩ := info_parts infoB
  obtain ⟨vs, h1, h2, h3⟩ := h
  obtain ⟨v', W', hr, ho, hgr, hnil⟩ := run_append_own (P := Tryd.prog) W base 38 ty 34 i0 _ 1 24 Tryd.underlying38 hi hz0 hz1 hz2 rfl (by decide) v R.length vs h1 ⟨g, 0, none⟩ 1 1 [.slice (some ⟨gb, 0, none⟩) B.length cb] rfl (fun j u hu => by
    cases j with
    | zero =>
      obtain rfl := Option.some.inj hu
      exact hg
    | succ j => simp at hu) (fun u hu => by
      rw [List.mem_singleton] at hu
      subst hu
      rfl) (by unfold maxLen; omega) (by omega) hbase
  exact ⟨v', W', hr, RowsOf.snoc h1 h2 h3 hb ho hgr, (Below.refl _ W).grown hgr hbase (fun k hk => own_base h1 hk)⟩
theorem rows_none (W : World) (base : Nat) : RowsOf W base (.slice none 0 0) [] := ⟨[], ⟨rfl, .inl ⟨rfl, rfl⟩⟩, trivial, fun _ => rfl⟩
def RowsPost (w : World) (R : List (List Nat)) (e : Ending) (w' : World) : Prop := ∃ v, e = .returned v ∧ RowsOf w' w.heap.size v R ∧ Below w.heap.size w w'
set_option maxHeartbeats 1000000 in
theorem bytes_any (w : World) (a : Option Addr) (c : Nat) (R : List (List Nat)) (h : TRows w a R) (hl : R.length ≤ 1000) (h63 : ∀ B ∈ R, B.length ≤ 100000) :
    Calls Tryd.prog 18 #[.slice a R.length c] w (RowsPost w R) := by
  have HR := Lib.hid h
  have H63 := Lib.hid h63
  clear h h63
  obtain ⟨n, hn⟩ : ∃ n, n = R.length := ⟨_, rfl⟩
  rw [← hn] at hl ⊢
  have HN := Lib.hid hn
  clear hn
  go_enter Tryd.func18, Tryd.ntmps18
  go_wp2_with fail
  go_loopw [3, 4] (fun v i wr => ∃ k : Nat, i = .int .i64 (k : Int) ∧ k ≤ n ∧ Hid (RowsOf wr w.heap.size v (R.take k)) ∧ Below w.heap.size w wr) (fun _ i _ => n - (intOf i).toNat)
  case atStart => exact ⟨0, rfl, Nat.zero_le _, Lib.hid (rows_none _ _), Below.refl _ _⟩
  case round =>
    obtain ⟨k, rfl, hk, HT, hbel⟩ := hrel
    have HB := Lib.hid hbel
    clear hbel
    by_cases hkn : k < n
    · have hki : (k : Int) < (n : Int) := by omega
      obtain ⟨g, rfl, hc, h256⟩ := HR.out k (by rw [← HN.out]; exact hkn)
      have hcl := (HB.out.cell (p := ⟨g, k, none⟩) (cell_lt hc)).trans hc
      have hidx := idx_trow' g n c k hkn
      have hmem : R.getD k [] ∈ R := by
        have hk' : k < R.length := by rw [← HN.out]; exact hkn
        rw [List.getD_eq_getElem?_getD, List.getElem?_eq_getElem hk']
        exact List.getElem_mem hk'
      have hBl := H63.out _ hmem
      have htk : R.take (k + 1) = R.take k ++ [R.getD k []] := by
        have hk' : k < R.length := by rw [← HN.out]; exact hkn
        rw [List.take_succ_eq_append_getElem hk', List.getD_eq_getElem?_getD, List.getElem?_eq_getElem hk']
        rfl
      have HTk := Lib.hid htk
      have hconv := fun W => run_bytes_of_string (P := Tryd.prog) W 9 34 5 (bstr (R.getD k [])) Tryd.underlying9 Tryd.underlying34 Tryd.underlying5
      have hbs : (bstr (R.getD k [])).size = (R.getD k []).length := size_bstr _
      rw [hbs] at hconv
      have hrow := row_of_string wr (bstr (R.getD k [])) (by rw [hbs]; unfold maxLen; omega) (grownCap wr (R.getD k []).length 0 5) ((bytesRow (bstr (R.getD k [])) (grownCap wr (R.getD k []).length 0 5)).size, (bytesRow (bstr (R.getD k [])) (grownCap wr (R.getD k []).length 0 5)).size + 1)
      rw [hbs, bytesOf_bstr _ h256] at hrow
      clear htk hmem hc
      generalize R.getD k [] = B at *
      generalize hbB : bstr B = bB at *
      generalize hcB : grownCap wr B.length 0 5 = cB at *
      clear hbB hbs
      obtain ⟨X1, hX1⟩ : ∃ X1, X1 = wr.alloc (.cells (bytesRow bB cB) 5 ((bytesRow bB cB).size, (bytesRow bB cB).size + 1)) := ⟨_, rfl⟩
      have hB1 : Below wr.heap.size wr X1 := by rw [hX1]; exact (Below.refl _ _).alloc (Nat.le_refl _) _
      have hrow1 : ByteRow X1 (some ⟨wr.heap.size, 0, none⟩) B.length B := by rw [hX1]; exact hrow
      have hX1s : X1.heap.size = wr.heap.size + 1 := by rw [hX1]; exact size_alloc' wr _
      obtain ⟨W1, hW1⟩ : ∃ W1, W1 = (X1.alloc (.cells #[.slice (some ⟨wr.heap.size, 0, none⟩) B.length cB] 34)).drew := ⟨_, rfl⟩
      have hal : Below X1.heap.size X1 W1 := by rw [hW1]; exact ((Below.refl _ _).alloc (Nat.le_refl _) _).drew
      have hnb : W1.cell? ⟨wr.heap.size + 1, 0, none⟩ = some (.slice (some ⟨wr.heap.size, 0, none⟩) B.length cB) := by rw [hW1, ← hX1s]; exact new_box X1 _ _ 0 _ rfl
      obtain ⟨nv, W9, hr, hrx, hbl⟩ := run_snoc_rows W1 38 w.heap.size (wr.heap.size + 1) wr.heap.size cB u3 (R.take k) B ((HT.out.below hB1).below hal) (hrow1.below hal) hnb (by rw [List.length_take]; have := HN.out; omega) (by have := HB.out.size; have := hB1.size; have := hal.size; omega)
      rw [← HTk.out] at hrx
      have HRx := Lib.hid hrx
      have HB9 : Hid (Below w.heap.size w W9) := Lib.hid ((Below.step hal (Below.step hB1 HB.out HB.out.size) (Nat.le_trans HB.out.size hB1.size)).trans hbl)
      have HRr := Lib.hid hr
      rw [hX1] at hW1
      have HW1 := Lib.hid hW1
      clear hr hrx hbl hal hrow hrow1 hB1 hX1s hX1 hW1 hnb h256
      go_wp2_with (at_builtin; rw [← HW1.out]; refine wpList_append_run rfl (.tmp 11) (.tmp 17) 38 38 rfl rfl rfl HRr.out ?_)
      go_wp2_with fail
      go_roundw
      case rel => exact ⟨k + 1, by go_num, by omega, HRx, HB9.out⟩
      case measure => simp [intOf]; omega
    · obtain rfl : k = n := by omega
      have hT := HT.out
      rw [List.take_of_length_le (by rw [HN.out]; exact Nat.le_refl _)] at hT
      have HT2 := Lib.hid hT
      clear hT
      go_wp2_with fail
      go_ret
      exact ⟨_, rfl, HT2.out, HB.out⟩
end Go.Proofs.YtcmnfbpmkndfkaaDoor
namespace Go.Proofs.YtcmnfbpmkndfkaaDoor
open Go.ChangeShapes Go.WideShapes Go.ChangeAt Go.RowKit Go.Deep
set_option linter.unusedVariables false
set_option maxRecDepth 100000

theorem none_any (w : World) : Calls Tryd.prog 7 #[] w fun e w' => e = .returned (.pointer none) ∧ w = w' := by
  go_enter Tryd.func7, Tryd.ntmps7
  go_wp2_with fail
  go_ret
  exact ⟨rfl, rfl⟩
theorem append_nil (w : World) : Calls Tryd.prog 8 #[.pointer none, .slice none 0 0] w fun e w' => e = .returned (.int .i64 1) ∧ Below w.heap.size w w' := by
  go_enter Tryd.func8, Tryd.ntmps8
  go_wp2_with fail
  go_ret
  exact ⟨rfl, by first | exact Below.refl _ _ | exact (Below.refl _ _).alloc (Nat.le_refl _) _ | exact ((Below.refl _ _).alloc (Nat.le_refl _) _).alloc (by simp) _⟩
theorem truncate_nil (w : World) : Calls Tryd.prog 9 #[.pointer none] w fun e w' => e = .returned (.int .i64 1) ∧ w = w' := by
  go_enter Tryd.func9, Tryd.ntmps9
  go_wp2_with fail
  go_ret
  exact ⟨rfl, rfl⟩
theorem age_nil (w : World) : Calls Tryd.prog 10 #[.pointer none] w fun e w' => e = .returned (.int .i64 0) ∧ w = w' := by
  go_enter Tryd.func10, Tryd.ntmps10
  go_wp2_with fail
  go_ret
  exact ⟨rfl, rfl⟩
theorem room_nil (w : World) : Calls Tryd.prog 11 #[.pointer none] w fun e w' => e = .returned (.int .i64 (-1)) ∧ w = w' := by
  go_enter Tryd.func11, Tryd.ntmps11
  go_wp2_with fail
  go_ret
  exact ⟨rfl, rfl⟩
theorem run_append_none' {P : Program} {w : World} (base : Nat) (t ty e : TypeId) (i : TypeInfo) (size : Nat) (ht : P.underlying t = some (.slice e)) (hi : P.info? e = some i)
    (v : Value) (n : Nat) (xs : List Value) (c : Nat) (hown : w.ownsRow base e size v n xs) :
    (Builtin.append_ #[t, t] ty #[v, .slice none 0 c]).run P w = .ok v w := by
  rcases hown.2 with ⟨rfl, rfl⟩ | ⟨g, cap, cur, rfl, _, _, hnc, _⟩
  · simp [Builtin.append_, run_underlying ht, sizeOf, typeInfo, hi, Builtin.lenOf, Builtin.firstCells]
  · simp [Builtin.append_, run_underlying ht, sizeOf, typeInfo, hi, Builtin.lenOf, Builtin.firstCells, hnc, storeCells]
/-- append([]byte{}, b...) -/
theorem run_copy_bytes (W : World) (ty : TypeId) (base g0 n c : Nat) (a : Option Addr) (B : List Nat) (h0 : W.ownsRow base 5 1 (.slice (some ⟨g0, 0, none⟩) 0 0) 0 (Im.vals [])) (hB : ByteRow W a n B) (hn : n ≤ 100000) (hbase : base ≤ W.heap.size) :
    ∃ v' W', (Builtin.append_ #[34, 34] ty #[.slice (some ⟨g0, 0, none⟩) 0 0, .slice a n c]).run Tryd.prog W = .ok v' W' ∧ W'.ownsRow base 5 1 v' n (Im.vals B) ∧ Below base W W' := by
  obtain ⟨i0, hi, hz0, hz1, hz2⟩ := info_parts Cr.info5
  cases a with
  | none =>
    have h00 : n = 0 := by
      rcases Nat.eq_zero_or_pos n with h | h
      · exact h
      · obtain ⟨b, o, e, _⟩ := hB.2.2.2 h
        cases e
    subst h00
    obtain rfl : B = [] := List.eq_nil_of_length_eq_zero hB.1
    exact ⟨_, W, run_append_none' base 34 ty 5 i0 1 Tryd.underlying34 hi _ 0 _ c h0, h0, Below.refl _ _⟩
  | some x =>
    obtain ⟨v', W', hr, ho, hgr, hnil⟩ := run_append_own (P := Tryd.prog) W base 34 ty 5 i0 _ 1 1 Tryd.underlying34 hi hz0 hz1 hz2 rfl (by decide) (.slice (some ⟨g0, 0, none⟩) 0 0) 0 (Im.vals []) h0 x n c (Im.vals B) (by rw [Im.vals_length, hB.1, Nat.mul_one]) (fun j u hu => by
      have hj2 : j < B.length := by
        have := (List.getElem?_eq_some_iff.1 hu).1
        rw [Im.vals_length] at this
        exact this
      rw [Im.vals_get B j hj2] at hu
      obtain rfl := Option.some.inj hu
      obtain ⟨b, o, e, hc⟩ := hB.2.2.2 (by have := hB.1; omega)
      obtain rfl := Option.some.inj e
      rw [Cr.addr_add]
      exact hc j (by have := hB.1; omega)) (fun u hu => by
      obtain ⟨c, _, rfl⟩ := List.mem_map.1 hu
      rfl) (by unfold maxLen; omega) (by omega) hbase
    refine ⟨v', W', hr, ?_, (Below.refl _ W).grown hgr hbase (fun k hk => own_base h0 hk)⟩
    rw [Nat.zero_add] at ho
    exact ho
theorem run_snoc_texts2 (W : World) (ty : TypeId) (base g : Nat) (v : Value) (S : List (List Nat)) (B : List Nat) (h0 : W.ownsRow base 9 1 v S.length (strs (S.map bstr))) (hS : ∀ B ∈ S, ∀ c ∈ B, c < 256) (hB : ∀ c ∈ B, c < 256) (hg : W.cell? ⟨g, 0, none⟩ = some (.string (bstr B))) (hl : S.length ≤ 1000) (hbase : base ≤ W.heap.size) :
    ∃ v' W', (Builtin.append_ #[33, 33] ty #[v, .slice (some ⟨g, 0, none⟩) 1 1]).run Tryd.prog W = .ok v' W' ∧ TextsOf W' base v' (S ++ [B]) ∧ Only (fun k => v.ownBlock = some k) W W' ∧ (v'.ownBlock = v.ownBlock ∨ v'.ownBlock = some W.heap.size) := by
  obtain ⟨i0, hi, hz0, hz1, hz2⟩ := info_parts info9
  obtain ⟨v', W', hr, ho, hgr, hnil, hat⟩ := run_append_own_at (P := Tryd.prog) W base 33 ty 9 i0 _ 1 16 Tryd.underlying33 hi hz0 hz1 hz2 rfl (by decide) v S.length (strs (S.map bstr)) h0 ⟨g, 0, none⟩ 1 1 [.string (bstr B)] rfl (fun j u hu => by
    cases j with
    | zero =>
      obtain rfl := Option.some.inj hu
      exact hg
    | succ j => simp at hu) (fun u hu => by
      rw [List.mem_singleton] at hu
      subst hu
      rfl) (by unfold maxLen; omega) (by omega) hbase
  refine ⟨v', W', hr, ⟨?_, ?_, fun e => by simp at e⟩, ⟨hgr.os, hgr.tape, hgr.output, hgr.size, fun k hk hne => hgr.block k hk (fun e => hne e.symm)⟩, hat⟩
  · have e1 : (S ++ [B]).length = S.length + 1 := by simp
    have e2 : strs ((S ++ [B]).map bstr) = strs (S.map bstr) ++ [.string (bstr B)] := by simp [strs]
    rw [e1, e2]
    exact ho
  · intro C hC
    rcases List.mem_append.1 hC with h | h
    · exact hS C h
    · rw [List.mem_singleton] at h
      subst h
      exact hB
/-- a log, when other blocks change -/
theorem Lc.aside {w wr wr' : World} {p g m : Nat} {F G : Nat → Prop} {s : LSt} {d : DSt} {R : List (List Nat)} (h : Lc w wr p g F s d R m) (ho : Only G wr wr') (hF : ∀ k, F k → ¬ G k) (hg : ¬ G g) (hG : ∀ k, G k → w.heap.size ≤ k) : Lc w wr' p g F s d R m :=
  ⟨h.log.keep ho hg, h.disk.keep ho hF, h.fit, h.calm, h.ok, h.notF, h.new, h.newG, h.below.trans (ho.below h.below.size hG), h.at_, h.age, h.num⟩
theorem Ow.aside {W W' : World} {base g : Nat} {F G : Nat → Prop} {v : Value} {S : List (List Nat)} (h : Ow W base F g v S) (ho : Only G W W') (hv : ∀ k, v.ownBlock = some k → ¬ G k) : Ow W' base F g v S := ⟨h.1.only ho hv, h.2⟩
theorem Lc.room {w W : World} {p g m : Nat} {F : Nat → Prop} {s : LSt} {d : DSt} {R : List (List Nat)} (h : Lc w W p g F s d R m) : Calls Tryd.prog 11 #[.pointer (some ⟨g, 0, none⟩)] W fun e w' => e = .returned (.int .i64 (roomL s)) ∧ Below W.heap.size W w' := by
  have h1 := h.at_
  have h2 := h.ok.used
  refine (room_any W g p s h.log (by omega) (by omega)).mono ?_
  rintro e w' ⟨rfl, n, rfl⟩
  exact ⟨rfl, below_dN W n⟩
theorem own_cap {w : World} {base n c size : Nat} {a : Option Addr} {e : TypeId} {xs : List Value} (h : w.ownsRow base e size (.slice a n c) n xs) : c ≤ maxLen := by
  rcases h.2 with ⟨e, _⟩ | ⟨_, _, _, e, _, _, _, h1, _⟩
  · injection e with _ _ e
    rw [e]; exact Nat.zero_le _
  · injection e with _ _ e
    rw [e]; exact h1
theorem isRecs_short {N : List ByteArray} : ∀ (R : List (List Nat)) (s : LSt), s.c = 14 → IsRecs N s R → ∀ B ∈ R, B.length ≤ 100000
  | [], _, _, _, B, hB => (List.not_mem_nil hB).elim
  | C :: R, s, hc, h, B, hB => by
    rcases List.mem_cons.1 hB with rfl | hB
    · have h1 := isrec_used h.1
      unfold sectorsN at h1
      omega
    · exact isRecs_short R (s.passed C.length) hc h.2 B hB
theorem lc_short {w wr : World} {p g m : Nat} {F : Nat → Prop} {s : LSt} {d : DSt} {R : List (List Nat)} (h : Lc w wr p g F s d R m) : ∀ B ∈ R, B.length ≤ 100000 := isRecs_short R s.zero h.at_.2 h.ok.recs
theorem own_blk {a : Option Addr} {n c k : Nat} (h : (Value.slice a n c).ownBlock = some k) : ∃ x, a = some x ∧ x.block = k := by
  cases a with
  | none => cases h
  | some x => exact ⟨x, rfl, Option.some.inj h⟩
theorem idx_brow8 (g n c k : Nat) (hk : k < n) (W : World) : (Instr.indexAt 34 (.slice (some ⟨g, 0, none⟩) n c) (.int .i64 (k : Int))).run Tryd.prog W = .ok (.pointer (some ⟨g, k, none⟩)) W := by
  have h1 : (0 : Int) ≤ (k : Int) := by omega
  have h2 : (k : Int) < (n : Int) := by omega
  go_simp
theorem lt_set (l : List Nat) (k x : Nat) (hx : x < 256) (h : ∀ c ∈ l, c < 256) : ∀ c ∈ l.set k x, c < 256 := fun c hc => by
  rcases List.mem_or_eq_of_mem_set hc with h' | h'
  · exact h c h'
  · rw [h']; exact hx
end Go.Proofs.YtcmnfbpmkndfkaaDoor
namespace Go.Proofs.YtcmnfbpmkndfkaaDoor
open Go.ChangeShapes Go.WideShapes Go.ChangeAt Go.RowKit Go.Deep
set_option linter.unusedVariables false
set_option maxRecDepth 100000

abbrev Tab := Cr.Tab
theorem sliceTo (a : Option Addr) (len cap m : Nat) (h1 : m ≤ cap) (hc : cap ≤ maxLen) (w : World) : (Instr.slice 34 (.slice a len cap) none (some (.int .i64 (m : Int))) none).run Tryd.prog w = .ok (.slice a m cap) w := by
  rw [run_slice_h w 34 a len cap (by kernel_rfl) .i64 (m : Int) (by omega) (by omega)]
  go_simp
theorem row_old {w : World} {a : Option Addr} {n : Nat} {l : List Nat} (h : ByteRow w a n l) (h0 : 0 < n) : ∀ x, a = some x → x.block < w.heap.size := by
  intro x hx
  obtain ⟨b, o, e, hc⟩ := h.2.2.2 h0
  rw [hx] at e
  obtain rfl := Option.some.inj e
  have := cell_lt (hc 0 h0)
  exact this
/-- what holds between the rounds -/
structure Et (w wr : World) (p g : Nat) (F : Nat → Prop) (s : LSt) (d : DSt) (S : List (List Nat)) (m : Nat) (h : Value) (lf A : Nat) : Prop where
  lc : Lc w wr p g F s d S m
  q : d.armed = false ∧ d.left = 0
  ow : Ow wr w.heap.size F g h S
  left : lf + s.used = 14
  age : A = s.age
set_option maxHeartbeats 20000000 in
theorem entries_walk (a : Option Addr) (len cap : Nat) (ts : Nat → Ent) (w : World) (hrow : Ents w a len ts) (ht : Cr.Tab w) :
    Calls Tryd.prog 3 #[.slice a len cap] w fun e w' => e = .returned (.bool true) ∧ Below w.heap.size w w' := by
  have HT := Lib.hid ht
  have HROW := Lib.hid hrow
  have HLg := Lib.hid (logs_any w ht)
  clear hrow ht
  go_enter Tryd.func3, Tryd.ntmps3
  go_wp2_with fail
  refine HLg.out.mono ?_
  clear HLg
  rintro e w1 ⟨rfl, hb⟩
  have HB1 := Lib.hid hb
  clear hb
  go_wp2_with fail
  refine (none_any _).mono ?_
  rintro e w1 ⟨rfl, rfl⟩
  go_wp2_with fail
  refine (append_nil _).mono ?_
  rintro e w2 ⟨rfl, hb⟩
  have HB2 := Lib.hid (Below.step hb HB1.out HB1.out.size)
  clear hb
  go_wp2_with fail
  refine (none_any _).mono ?_
  rintro e w2 ⟨rfl, rfl⟩
  go_wp2_with fail
  refine (truncate_nil _).mono ?_
  rintro e w2 ⟨rfl, rfl⟩
  go_wp2_with fail
  refine (none_any _).mono ?_
  rintro e w2 ⟨rfl, rfl⟩
  go_wp2_with fail
  refine (age_nil _).mono ?_
  rintro e w2 ⟨rfl, rfl⟩
  go_wp2_with fail
  refine (none_any _).mono ?_
  rintro e w2 ⟨rfl, rfl⟩
  go_wp2_with fail
  refine (room_nil _).mono ?_
  rintro e w2 ⟨rfl, rfl⟩
  have HT2 := Lib.hid (Cr.Tab.below HT.out HB2.out)
  have HFr := Lib.hid (fresh_c w2 HT2.out)
  go_wp2_with fail
  refine HFr.out.mono ?_
  clear HFr
  rintro e w3 ⟨p, g, F, rfl, _, d, hlc, hqa, hql⟩
  have HE3 : Hid (Et w2 w3 p g F s18 d [] 17 (.slice none 0 0) 12 1) := Lib.hid ⟨hlc, ⟨hqa, hql⟩, ow_none _ _ _ _, rfl, rfl⟩
  clear hlc hqa hql HB1
  go_wp2_with fail
  go_loopw [4, 6, 7, 8, 9] (fun l ag lv hv i wr => ∃ (k g : Nat) (F : Nat → Prop) (s : LSt) (d : DSt) (S : List (List Nat)) (lf A : Nat), l = .pointer (some ⟨g, 0, none⟩) ∧ ag = .int .i64 (A : Int) ∧ lv = .int .i64 (lf : Int) ∧ i = .int .i64 (k : Int) ∧ k ≤ 20 ∧ Hid (Et w2 wr p g F s d S (17 + 60 * k) hv lf A)) (fun _ _ _ _ i _ => 20 - (intOf i).toNat)
  case atStart => exact ⟨0, g, F, s18, d, [], 12, 1, rfl, rfl, rfl, rfl, by omega, HE3⟩
  case round =>
    obtain ⟨k, g, F, s, d, S, lf, A, rfl, rfl, rfl, rfl, hk, HE⟩ := hrel
    obtain ⟨wq, rfl⟩ : ∃ x, x = wr := ⟨_, rfl⟩
    clear HE3
    have HLc := Lib.hid HE.out.lc
    have HOw := Lib.hid HE.out.ow
    by_cases hlt : k < len ∧ k < 20
    · obtain ⟨hl1, hl2⟩ := hlt
      obtain ⟨b, o, hbl, c0, c1, c2, r1, hc1, hc2, hix⟩ := HROW.out.at_ hl1
      generalize ts k = t at *
      obtain ⟨what, ab, nb, cb, L, by_⟩ := t
      dsimp only at c0 c1 c2 r1 hc1 hc2
      obtain ⟨M, hM⟩ : ∃ M, M = min nb 4000 := ⟨_, rfl⟩
      have hmin : min (nb : Int) 4000 = (M : Int) := by omega
      have hM1 : M ≤ 4000 := by omega
      have hM2 : M ≤ nb := by omega
      have hM3 : M ≤ cb := by omega
      have hk20 : (k : Int) < 20 := by omega
      have hkl : (k : Int) < (len : Int) := by omega
      have hsl := fun W => sliceTo ab nb cb M hM3 hc2 W
      have HROWm := Lib.hid (row_take r1 hM2)
      have hsr := HLc.out.below.size
      have hs2 := HB2.out.size
      have c0' := (HLc.out.below.cell (p := ⟨b, o, none⟩) (by show b < _; omega)).trans ((HB2.out.cell (p := ⟨b, o, none⟩) hbl).trans c0)
      have c1' := (HLc.out.below.cell (p := ⟨b, o + 1, none⟩) (by show b < _; omega)).trans ((HB2.out.cell (p := ⟨b, o + 1, none⟩) hbl).trans c1)
      have c2' := (HLc.out.below.cell (p := ⟨b, o + 2, none⟩) (by show b < _; omega)).trans ((HB2.out.cell (p := ⟨b, o + 2, none⟩) hbl).trans c2)
      clear c0 c1 c2 r1 hM
      have hFl : ∀ j, F j → j < wq.heap.size := fun j hj => HLc.out.disk.lts j hj
      have hgl : g < wq.heap.size := HLc.out.log.lt
      have hfew := HLc.out.few
      have hB256 := HROWm.out.2.2.1
      generalize hBB : L.take M = B at *
      have HB256 := Lib.hid hB256
      clear hB256 hBB
      obtain ⟨WB, hWB⟩ : ∃ WB, WB = wq.alloc (.cells #[.int .i64 what, .slice ab nb cb, .int .i64 by_] 36) := ⟨_, rfl⟩
      have hal : Below wq.heap.size wq WB := by rw [hWB]; exact (Below.refl _ _).alloc (Nat.le_refl _) _
      have hWBs : WB.heap.size = wq.heap.size + 1 := by rw [hWB]; exact size_alloc' wq _
      have HBn : Hid (∀ W, Below WB.heap.size WB W → Bx W F g wq.heap.size #[.int .i64 what, .slice ab nb cb, .int .i64 by_] 36) := Lib.hid (fun W hb => by
        rw [hWB] at hb
        exact bx_new F g _ _ hb hFl hgl)
      obtain ⟨WE, hWE⟩ : ∃ WE, WE = WB.alloc (.cells #[] 5) := ⟨_, rfl⟩
      have hale : Below WB.heap.size WB WE := by rw [hWE]; exact (Below.refl _ _).alloc (Nat.le_refl _) _
      have hown0 : WE.ownsRow WB.heap.size 5 1 (.slice (some ⟨wq.heap.size + 1, 0, none⟩) 0 0) 0 (Im.vals []) := by rw [hWE, ← hWBs]; exact own_empty WB _ _ (Nat.le_refl _)
      have hrowE : ByteRow WE ab M B := (((HROWm.out.below HB2.out).below HLc.out.below).below hal).below hale
      obtain ⟨vb, W5, hr, hob, hbl5⟩ := run_copy_bytes WE 34 WB.heap.size (wq.heap.size + 1) M cb ab B hown0 hrowE (by omega) hale.size
      obtain ⟨va, vc, rfl, hrow5, hvc, hva⟩ := own_bytes hob HB256.out (by unfold maxLen; omega)
      have HB5 : Hid (Below WB.heap.size WB W5) := Lib.hid (hale.trans hbl5)
      have HB5q : Hid (Below wq.heap.size wq W5) := Lib.hid (Below.step HB5.out hal hal.size)
      have HOb := Lib.hid hob
      have HRow5 := Lib.hid hrow5
      have HVa : Hid (∀ x, va = some x → wq.heap.size < x.block ∧ x.block < W5.heap.size) := Lib.hid (fun x hx => by have := hva x hx; omega)
      have HL5 := Lib.hid (HLc.out.to HB5q.out)
      have HOw5 : Hid (Ow W5 w2.heap.size F g u8 S) := Lib.hid (HOw.out.below HB5q.out)
      have HBx5 := Lib.hid (HBn.out W5 HB5.out)
      have hvcm : vc ≤ maxLen := own_cap hob
      rw [hWB] at hWE
      have HWE := Lib.hid hWE
      have HRn := Lib.hid hr
      clear hr hob hbl5 hrow5 hva hWE hWB hal hale hown0 hrowE hWBs HBn
      go_wp2_with (at_builtin; rw [← HWE.out]; refine wpList_append_run rfl (.tmp 64) (.tmp 71) 34 34 rfl rfl rfl HRn.out ?_)
      have hleft := HE.out.left
      have hageE := HE.out.age
      have hat5 := HL5.out.at_
      have hu5 := HL5.out.ok.used
      have HR5 := Lib.hid (HL5.out.room)
      have HRm : Hid (roomL s = if lf = 0 then -1 else ((lf : Int) - 1) * 511) := Lib.hid (by
        unfold roomL
        by_cases h0 : lf = 0
        · rw [if_pos (by omega), if_pos h0]
        · rw [if_neg (by omega), if_neg h0, show s.c - s.used - 1 = lf - 1 by omega]
          omega)
      have HAg : Hid (∀ W, Below W5.heap.size W5 W → Calls Tryd.prog 10 #[.pointer (some ⟨g, 0, none⟩)] W fun e w' => e = .returned (.int .i64 (A : Int)) ∧ W = w') := Lib.hid (fun W hb => by
        have h := age_any W g p s (HL5.out.to hb).log
        rw [hageE]
        exact h)
      have hlf12 : lf ≤ 12 := by have := HL5.out.ok.two; omega
      have HAt := Lib.hid (And.intro hat5 (And.intro hu5 (And.intro hleft hageE)))
      clear hat5 hu5 hleft hageE
      have hroomcases : lf = 0 ∨ 0 < lf := by omega
      rcases hroomcases with rfl | hlf
      · rw [HRm.out, if_pos rfl] at HR5
        refine HR5.out.mono ?_
        clear HR5
        rintro e w6 ⟨rfl, hb⟩
        have HB6 := Lib.hid hb
        have HR6 := Lib.hid ((HL5.out.to hb).room)
        rw [HRm.out, if_pos rfl] at HR6
        clear hb
        go_wp2_with fail
        refine HR6.out.mono ?_
        clear HR6
        rintro e w7 ⟨rfl, hb⟩
        have HB7 := Lib.hid (Below.step hb HB6.out HB6.out.size)
        clear hb HB6
        go_wp2_with fail
        refine (HAg.out _ HB7.out).mono ?_
        rintro e w7 ⟨rfl, rfl⟩
        clear HAg HRm
        have HL7 := Lib.hid (HL5.out.to HB7.out)
        have HOw7 := Lib.hid (HOw5.out.below HB7.out)
        have HBx7 := Lib.hid (HBx5.out.below HB7.out)
        have HRow7 := Lib.hid (HRow5.out.below HB7.out)
        have HOb7 := Lib.hid (own_below HOb.out HB7.out)
        have HVa7 : Hid (∀ x, va = some x → wq.heap.size < x.block ∧ x.block < w7.heap.size) := Lib.hid (fun x hx => by have := HVa.out x hx; have := HB7.out.size; omega)
        have HQ7 := Lib.hid HE.out.q
        have x0 : w7.cell? ⟨wq.heap.size, 0, none⟩ = some (.int .i64 what) := HBx7.out.cell 0 _ rfl
        clear HL5 HOw5 HBx5 HRow5 HOb HVa
        by_cases h1 : what = 1
        · subst h1
          have hAn := lc_append w2 w7 p g (17 + 60 * k) M vc F va s d S B HL7.out HRow7.out hvc hvcm (fun h0 x hx => by
            have h5 := HVa7.out x hx
            exact ⟨fun h => by have := hFl _ h; omega, fun h => by omega⟩) (by omega) (by omega) HT2.out
          have HAn := Lib.hid hAn
          clear hAn
          go_wp2_with fail
          refine HAn.out.mono ?_
          clear HAn
          rintro e w8 ⟨r, F8, d8, rfl, hex, hqk, han⟩
          have hqk' := hqk HQ7.out.1 HQ7.out.2 HL7.out.calm.off
          have HQ8 : Hid (d8.armed = false ∧ d8.left = 0) := Lib.hid hqk'.2
          have hr8 := hqk'.1
          have HOw8 := Lib.hid (HOw7.out.ext hex)
          have HEx := Lib.hid hex
          have HNeed := Lib.hid (fun W => refNeed M (by omega) W)
          obtain ⟨D, hD⟩ : ∃ D, D = 1 + sectorsN M := ⟨_, rfl⟩
          rw [← hD] at HNeed
          have HD := Lib.hid hD
          clear hqk hqk' hex hD
          rcases han with ⟨rfl, hfit, h8⟩ | ⟨rfl, hfull, h8⟩ | ⟨rfl, _⟩
          · have hDl : D ≤ 0 := by have := HD.out; have := HAt.out; omega
            exact absurd hDl (by have := HD.out; omega)
          · have hDl : 0 < D := by have := HD.out; have := HAt.out; omega
            have HL8 := Lib.hid h8
            clear h8 hr8 hfull x0
            go_wp2_with fail
            refine (HNeed.out _).mono ?_
            rintro e w9 ⟨rfl, rfl⟩
            have hng : (0 : Int) < (D : Int) := by omega
            go_wp2_with fail
            go_roundw
            case rel => exact ⟨k + 1, g, F8, s, d8, S, 0, A, rfl, rfl, rfl, by go_num, by omega, Lib.hid ⟨HL8.out.more (by omega), HQ8.out, HOw8.out, HE.out.left, HE.out.age⟩⟩
            case measure => simp [intOf]; omega
          · exact absurd rfl hr8
        · have h1' : (what == 1) = false := by simpa using h1
          by_cases h2 : what = 2
          · subst h2
            clear h1 h1'
            have HTr := Lib.hid (lc_truncate w2 w7 p g (17 + 60 * k) F s d S HL7.out (by omega) HT2.out)
            obtain ⟨A2, hA2⟩ : ∃ A2, A2 = A + 1 := ⟨_, rfl⟩
            have hA2i : (A : Int) + 1 = (A2 : Int) := by omega
            have hAb := HL7.out.age
            have hAs := HE.out.age
            have hA3 : A2 ≤ 5000 := by omega
            have HA2 := Lib.hid hA2
            clear hA2 hAb hAs
            go_wp2_with fail
            refine HTr.out.mono ?_
            clear HTr
            rintro e w8 ⟨r8, F8, d8, rfl, hex, hqk, han⟩
            have hqk' := hqk HQ7.out.1 HQ7.out.2 HL7.out.calm.off
            have HQ8 : Hid (d8.armed = false ∧ d8.left = 0) := Lib.hid hqk'.2
            have hr8 := hqk'.1
            clear hqk hqk' hex
            rcases han with ⟨rfl, h8⟩ | ⟨rfl, _⟩
            · have HL8 := Lib.hid h8
              clear h8 hr8
              have HE8 : Hid (Et w2 w8 p g F8 s.cut d8 [] (17 + 60 * k + 20) (.slice none 0 0) 12 A2) := Lib.hid ⟨HL8.out, HQ8.out, ow_none _ _ _ _, rfl, by rw [HA2.out, HE.out.age]; rfl⟩
              go_wp2_with fail
              refine (sectors_any w8 F8 p d8 HE8.out.lc.disk (by rw [HE8.out.lc.calm.ln]; exact HE8.out.lc.fit.good.2.1) (fun i hi => by rw [HE8.out.lc.calm.ln] at hi ⊢; exact good_at HE8.out.lc.fit.good i (by rw [← HE8.out.lc.fit.good.2.1]; exact hi))).mono ?_
              rintro e wa ⟨gs, cs, rfl, hsec, hba⟩
              rw [HE8.out.lc.calm.ln] at hsec
              have HSec := Lib.hid hsec
              have HBa := Lib.hid hba
              clear hsec hba
              go_wp2_with fail
              refine (scan_ok wa gs cs d8.N s.cut [] HSec.out HE8.out.lc.ok HE8.out.lc.at_ (good_sizes HE8.out.lc.fit) HE8.out.lc.fit.good.2.1).mono ?_
              rintro e wb ⟨vr, z, rfl, htx, hbb⟩
              rw [← HE8.out.age]
              obtain ⟨xa, xc, rfl, htr⟩ := htx.trows
              have HTr := Lib.hid htr
              have HBb := Lib.hid (Below.step hbb HBa.out HBa.out.size)
              have H256 := Lib.hid htx.2.1
              clear htr hbb htx
              have hfewS := HE8.out.lc.few
              go_wp2_with fail
              refine (bytes_any wb xa xc [] HTr.out (by omega) (lc_short HE8.out.lc)).mono ?_
              rintro e wc ⟨rv2, rfl, hrows, hbc⟩
              have HBc := Lib.hid (Below.step hbc HBb.out HBb.out.size)
              have hS := same_of hrows (HE8.out.ow.below HBc.out) (by omega) (by omega)
              rw [decide_eq_true rfl] at hS
              have HS := Lib.hid hS
              clear hS hrows hbc
              go_wp2_with fail
              refine (HS.out _ (Below.refl _ _)).mono ?_
              rintro e wd ⟨rfl, hbd⟩
              have HBd := Lib.hid (Below.step hbd HBc.out HBc.out.size)
              clear hbd HS
              go_wp2_with fail
              go_roundw
              case rel => exact ⟨k + 1, g, F8, s.cut, d8, [], 12, A2, rfl, rfl, rfl, by go_num, by omega, Lib.hid ⟨(HE8.out.lc.to HBd.out).more (by omega), HE8.out.q, HE8.out.ow.below HBd.out, HE8.out.left, HE8.out.age⟩⟩
              case measure => simp [intOf]; omega
            · exact absurd rfl hr8
          · have h2' : (what == 2) = false := by simpa using h2
            by_cases h3 : what = 3
            · subst h3
              clear h1 h1' h2 h2'
              go_wp2_with fail
              refine (lq_open (HL7.out.lq HQ7.out) HT2.out).mono ?_
              rintro e w8 ⟨rv, rfl, hr8, hl8, hb8⟩
              have hS := same_of hr8 (HOw7.out.opened hb8) (by omega) (by omega)
              rw [decide_eq_true rfl] at hS
              have HS := Lib.hid hS
              have HL8 := Lib.hid hl8
              have HOw8 := Lib.hid (HOw7.out.opened hb8)
              clear hS hr8 hl8 hb8
              go_wp2_with fail
              refine (HS.out _ (Below.refl _ _)).mono ?_
              rintro e w9 ⟨rfl, hb9⟩
              have HE9 : Hid (Et w2 w9 p w7.heap.size F s d S (17 + 60 * k + 20) u8 0 A) := Lib.hid ⟨(HL8.out.to hb9).more (by omega), HQ7.out, HOw8.out.below hb9, HE.out.left, HE.out.age⟩
              clear hb9 HS
              go_wp2_with fail
              refine (sectors_any w9 F p d HE9.out.lc.disk (by rw [HE9.out.lc.calm.ln]; exact HE9.out.lc.fit.good.2.1) (fun i hi => by rw [HE9.out.lc.calm.ln] at hi ⊢; exact good_at HE9.out.lc.fit.good i (by rw [← HE9.out.lc.fit.good.2.1]; exact hi))).mono ?_
              rintro e wa ⟨gs, cs, rfl, hsec, hba⟩
              rw [HE9.out.lc.calm.ln] at hsec
              have HSec := Lib.hid hsec
              have HBa := Lib.hid hba
              clear hsec hba
              go_wp2_with fail
              refine (scan_ok wa gs cs d.N s S HSec.out HE9.out.lc.ok HE9.out.lc.at_ (good_sizes HE9.out.lc.fit) HE9.out.lc.fit.good.2.1).mono ?_
              rintro e wb ⟨vr, z, rfl, htx, hbb⟩
              rw [← HE9.out.age]
              obtain ⟨xa, xc, rfl, htr⟩ := htx.trows
              have HTr := Lib.hid htr
              have HBb := Lib.hid (Below.step hbb HBa.out HBa.out.size)
              have H256 := Lib.hid htx.2.1
              clear htr hbb htx
              have hfewS := HE9.out.lc.few
              go_wp2_with fail
              refine (bytes_any wb xa xc S HTr.out (by omega) (lc_short HE9.out.lc)).mono ?_
              rintro e wc ⟨rv2, rfl, hrows, hbc⟩
              have HBc := Lib.hid (Below.step hbc HBb.out HBb.out.size)
              have hS := same_of hrows (HE9.out.ow.below HBc.out) (by omega) (by omega)
              rw [decide_eq_true rfl] at hS
              have HS := Lib.hid hS
              clear hS hrows hbc
              go_wp2_with fail
              refine (HS.out _ (Below.refl _ _)).mono ?_
              rintro e wd ⟨rfl, hbd⟩
              have HBd := Lib.hid (Below.step hbd HBc.out HBc.out.size)
              clear hbd HS
              go_wp2_with fail
              go_roundw
              case rel => exact ⟨k + 1, w7.heap.size, F, s, d, S, 0, A, rfl, rfl, rfl, by go_num, by omega, Lib.hid ⟨(HE9.out.lc.to HBd.out).more (by omega), HE9.out.q, HE9.out.ow.below HBd.out, HE9.out.left, HE9.out.age⟩⟩
              case measure => simp [intOf]; omega
            · have h3' : (what == 3) = false := by simpa using h3
              have HE9 : Hid (Et w2 w7 p g F s d S (17 + 60 * k + 20) u8 0 A) := Lib.hid ⟨HL7.out.more (by omega), HQ7.out, HOw7.out, HE.out.left, HE.out.age⟩
              go_wp2_with fail
              refine (sectors_any w7 F p d HE9.out.lc.disk (by rw [HE9.out.lc.calm.ln]; exact HE9.out.lc.fit.good.2.1) (fun i hi => by rw [HE9.out.lc.calm.ln] at hi ⊢; exact good_at HE9.out.lc.fit.good i (by rw [← HE9.out.lc.fit.good.2.1]; exact hi))).mono ?_
              rintro e wa ⟨gs, cs, rfl, hsec, hba⟩
              rw [HE9.out.lc.calm.ln] at hsec
              have HSec := Lib.hid hsec
              have HBa := Lib.hid hba
              clear hsec hba
              go_wp2_with fail
              refine (scan_ok wa gs cs d.N s S HSec.out HE9.out.lc.ok HE9.out.lc.at_ (good_sizes HE9.out.lc.fit) HE9.out.lc.fit.good.2.1).mono ?_
              rintro e wb ⟨vr, z, rfl, htx, hbb⟩
              rw [← HE9.out.age]
              obtain ⟨xa, xc, rfl, htr⟩ := htx.trows
              have HTr := Lib.hid htr
              have HBb := Lib.hid (Below.step hbb HBa.out HBa.out.size)
              have H256 := Lib.hid htx.2.1
              clear htr hbb htx
              have hfewS := HE9.out.lc.few
              go_wp2_with fail
              refine (bytes_any wb xa xc S HTr.out (by omega) (lc_short HE9.out.lc)).mono ?_
              rintro e wc ⟨rv2, rfl, hrows, hbc⟩
              have HBc := Lib.hid (Below.step hbc HBb.out HBb.out.size)
              have hS := same_of hrows (HE9.out.ow.below HBc.out) (by omega) (by omega)
              rw [decide_eq_true rfl] at hS
              have HS := Lib.hid hS
              clear hS hrows hbc
              go_wp2_with fail
              refine (HS.out _ (Below.refl _ _)).mono ?_
              rintro e wd ⟨rfl, hbd⟩
              have HBd := Lib.hid (Below.step hbd HBc.out HBc.out.size)
              clear hbd HS
              go_wp2_with fail
              go_roundw
              case rel => exact ⟨k + 1, g, F, s, d, S, 0, A, rfl, rfl, rfl, by go_num, by omega, Lib.hid ⟨(HE9.out.lc.to HBd.out).more (by omega), HE9.out.q, HE9.out.ow.below HBd.out, HE9.out.left, HE9.out.age⟩⟩
              case measure => simp [intOf]; omega
      · have hne : ¬ lf = 0 := by omega
        rw [HRm.out, if_neg hne] at HR5
        clear hne
        refine HR5.out.mono ?_
        clear HR5
        rintro e w7 ⟨rfl, hb⟩
        have HB7 := Lib.hid hb
        clear hb
        go_wp2_with fail
        refine (HAg.out _ HB7.out).mono ?_
        rintro e w7 ⟨rfl, rfl⟩
        clear HAg HRm
        have HL7 := Lib.hid (HL5.out.to HB7.out)
        have HOw7 := Lib.hid (HOw5.out.below HB7.out)
        have HBx7 := Lib.hid (HBx5.out.below HB7.out)
        have HRow7 := Lib.hid (HRow5.out.below HB7.out)
        have HOb7 := Lib.hid (own_below HOb.out HB7.out)
        have HVa7 : Hid (∀ x, va = some x → wq.heap.size < x.block ∧ x.block < w7.heap.size) := Lib.hid (fun x hx => by have := HVa.out x hx; have := HB7.out.size; omega)
        have HQ7 := Lib.hid HE.out.q
        have x0 : w7.cell? ⟨wq.heap.size, 0, none⟩ = some (.int .i64 what) := HBx7.out.cell 0 _ rfl
        clear HL5 HOw5 HBx5 HRow5 HOb HVa
        by_cases h1 : what = 1
        · subst h1
          have hAn := lc_append w2 w7 p g (17 + 60 * k) M vc F va s d S B HL7.out HRow7.out hvc hvcm (fun h0 x hx => by
            have h5 := HVa7.out x hx
            exact ⟨fun h => by have := hFl _ h; omega, fun h => by omega⟩) (by omega) (by omega) HT2.out
          have HAn := Lib.hid hAn
          clear hAn
          go_wp2_with fail
          refine HAn.out.mono ?_
          clear HAn
          rintro e w8 ⟨r, F8, d8, rfl, hex, hqk, han⟩
          have hqk' := hqk HQ7.out.1 HQ7.out.2 HL7.out.calm.off
          have HQ8 : Hid (d8.armed = false ∧ d8.left = 0) := Lib.hid hqk'.2
          have hr8 := hqk'.1
          have HOw8 := Lib.hid (HOw7.out.ext hex)
          have HEx := Lib.hid hex
          have HNeed := Lib.hid (fun W => refNeed M (by omega) W)
          obtain ⟨D, hD⟩ : ∃ D, D = 1 + sectorsN M := ⟨_, rfl⟩
          rw [← hD] at HNeed
          have HD := Lib.hid hD
          clear hqk hqk' hex hD
          rcases han with ⟨rfl, hfit, h8⟩ | ⟨rfl, hfull, h8⟩ | ⟨rfl, _⟩
          · have hDl : D ≤ lf := by have := HD.out; have := HAt.out; omega
            obtain ⟨S', hS'⟩ : ∃ S', S' = S ++ [B] := ⟨_, rfl⟩
            rw [← hS'] at h8
            have HL8 := Lib.hid h8
            clear h8 hr8 hfit x0
            go_wp2_with fail
            refine (HNeed.out _).mono ?_
            rintro e w9 ⟨rfl, rfl⟩
            have hng : ¬ (lf : Int) < (D : Int) := by omega
            obtain ⟨l2, hl2⟩ : ∃ l2, l2 = lf - D := ⟨_, rfl⟩
            have hsub : (lf : Int) - (D : Int) = (l2 : Int) := by omega
            have HL2 := Lib.hid hl2
            clear hl2
            have hvF : ∀ x, va = some x → ¬ (F x.block ∨ x.block = g) := fun x hx h => by
              have h5 := HVa7.out x hx
              rcases h with h | h
              · have := hFl _ h; omega
              · omega
            have HRow8 := Lib.hid (HRow7.out.only2 HEx.out.2 (fun _ => hvF))
            have HOb8 := Lib.hid (own_to HOb7.out (fun k' hk' => by
              obtain ⟨x, hx, rfl⟩ := own_blk hk'
              exact HEx.out.2.block x.block (HVa7.out x hx).2 (hvF x hx)))
            have hcv := conv_row vc HRow8.out
            obtain ⟨W8, hW8⟩ : ∃ W8, W8 = w8.alloc (.cells #[.string (bstr B)] 9) := ⟨_, rfl⟩
            have hal8 : Below w8.heap.size w8 W8 := by rw [hW8]; exact (Below.refl _ _).alloc (Nat.le_refl _) _
            have hW8s : W8.heap.size = w8.heap.size + 1 := by rw [hW8]; exact size_alloc' w8 _
            have hs8 := HL8.out.below.size
            obtain ⟨nv, W9, hr, htx, ho9, hat9⟩ := run_snoc_texts2 W8 33 w2.heap.size w8.heap.size u8 S B (HOw8.out.1.below hal8).1 HOw8.out.1.2.1 HB256.out (by rw [hW8]; exact new_box w8 _ _ 0 _ rfl) (by omega) (by have := hal8.size; omega)
            rw [← hS'] at htx
            clear hS'
            have hu8 : ∀ k', u8.ownBlock = some k' → k' < wq.heap.size ∧ w2.heap.size ≤ k' := fun k' hk' => by have := HOw.out.1.1.lt k' hk'; omega
            have HL9 : Hid (Lc w2 W9 p g F8 (s.passed M) d8 S' (17 + 60 * k + 20)) := Lib.hid ((HL8.out.to hal8).aside ho9 (fun k' hF hk' => (HOw8.out.2 k' hk').1 hF) (fun hk' => (HOw8.out.2 g hk').2 rfl) (fun k' hk' => (hu8 k' hk').2))
            have HOw9 : Hid (Ow W9 w2.heap.size F8 g nv S') := Lib.hid ⟨htx, fun k' hk' => by
              rcases hat9 with e | e
              · rw [e] at hk'
                exact HOw8.out.2 k' hk'
              · rw [e] at hk'
                obtain rfl := Option.some.inj hk'
                exact ⟨fun h => by have := HL8.out.disk.lts _ h; omega, fun h => by have := HL8.out.log.lt; omega⟩⟩
            have HOb9 := Lib.hid (own_to (own_below HOb8.out hal8) (fun k' hk' => by
              obtain ⟨x, hx, rfl⟩ := own_blk hk'
              have h5 := HVa7.out x hx
              have h6 := HEx.out.2.size
              have h7 := hal8.size
              exact ho9.block x.block (by omega) (fun e => by have := (hu8 _ e).1; omega)))
            have HVa9 : Hid (∀ x, va = some x → wq.heap.size < x.block) := Lib.hid (fun x hx => (HVa7.out x hx).1)
            have hnv9 : ∀ k', nv.ownBlock = some k' → (k' < wq.heap.size ∨ k' = W8.heap.size) := fun k' hk' => by
              rcases hat9 with e | e
              · rw [e] at hk'
                exact .inl (hu8 k' hk').1
              · rw [e] at hk'
                exact .inr (Option.some.inj hk').symm
            have hvlt : ∀ x, va = some x → x.block < W8.heap.size := fun x hx => by
              have h5 := HVa7.out x hx
              have h6 := HEx.out.2.size
              have h7 := hal8.size
              omega
            have HNvV : Hid (∀ x, va = some x → ¬ nv.ownBlock = some x.block) := Lib.hid (fun x hx e => by
              rcases hnv9 _ e with h | h
              · have := HVa9.out x hx; omega
              · have := hvlt x hx; omega)
            have HF8V : Hid (∀ x, va = some x → ¬ F8 x.block ∧ x.block ≠ g) := Lib.hid (fun x hx => by
              have h5 := HVa7.out x hx
              refine ⟨fun h => ?_, fun h => by omega⟩
              rcases HEx.out.1 _ h with h | h
              · have := hFl _ h; omega
              · omega)
            have HRr := Lib.hid hr
            have HW8 := Lib.hid hW8
            clear hr htx ho9 hat9 hW8 hal8 hW8s hu8 hnv9 hvlt hvF
            go_wp2_with (at_builtin; rw [← HW8.out]; refine wpList_append_run rfl (.tmp 111) (.tmp 114) 33 33 rfl rfl rfl HRr.out ?_)
            clear hcv
            go_loopw [14] (fun i wr => ∃ j : Nat, i = .int .i64 (j : Int) ∧ j ≤ M ∧ Hid (∃ xs, wr.ownsRow WB.heap.size 5 1 (.slice va M vc) M xs) ∧ Hid (Only (fun k' => ∃ x, va = some x ∧ k' = x.block) W9 wr)) (fun i _ => M - (intOf i).toNat)
            case atStart => exact ⟨0, rfl, Nat.zero_le _, Lib.hid ⟨_, HOb9.out⟩, Lib.hid (Only.refl _ _)⟩
            case round =>
              obtain ⟨j, rfl, hj, HX, HO⟩ := hrel
              by_cases hjM : j < M
              · have hji : (j : Int) < (M : Int) := by omega
                obtain ⟨xs, hxs⟩ := HX.out
                obtain ⟨gv, cv, ev, _, _⟩ := hxs.form (by omega)
                injection ev with e1 _ e2
                subst e1 e2
                have hst := hxs.stored j (.int .u8 238)
                have hfz := hxs.frozenAt j
                have hcl := hxs.cellAt j (by omega)
                have hxl : j < xs.length := by have := hxs.1; omega
                rw [List.getElem?_eq_getElem hxl] at hcl
                have hidx := idx_brow8 gv M vc j hjM
                have HX2 : Hid (∃ xs, (wr.setCell ⟨gv, j, none⟩ (.int .u8 238)).ownsRow WB.heap.size 5 1 (.slice (some ⟨gv, 0, none⟩) M vc) M xs) := Lib.hid ⟨_, hst.1⟩
                have HO2 : Hid (Only (fun k' => ∃ x, (some ⟨gv, 0, none⟩ : Option Addr) = some x ∧ k' = x.block) W9 (wr.setCell ⟨gv, j, none⟩ (.int .u8 238))) := Lib.hid (HO.out.setCell (p := ⟨gv, j, none⟩) ⟨_, rfl, rfl⟩ _)
                clear hst hxs
                generalize xs[j] = xj at *
                go_wp2_with fail
                go_roundw
                case rel => exact ⟨j + 1, by go_num, by omega, HX2, HO2⟩
                case measure => simp [intOf]; omega
              · have hji : ¬ (j : Int) < (M : Int) := by omega
                have HE9 : Hid (Et w2 wr p g F8 (s.passed M) d8 S' (17 + 60 * k + 20) nv l2 A) := Lib.hid ⟨HL9.out.aside HO.out (fun k' hF ⟨x, hx, e⟩ => (HF8V.out x hx).1 (e ▸ hF)) (fun ⟨x, hx, e⟩ => (HF8V.out x hx).2 e.symm) (fun k' ⟨x, hx, e⟩ => by have := HVa9.out x hx; omega), HQ8.out, HOw9.out.aside HO.out (fun k' hk' ⟨x, hx, e⟩ => HNvV.out x hx (e ▸ hk')), by have := HL2.out; have := HE.out.left; have := HD.out; show l2 + (s.used + (1 + sectorsN M)) = 14; omega, HE.out.age⟩
                go_wp2_with fail
                refine (sectors_any wr F8 p d8 HE9.out.lc.disk (by rw [HE9.out.lc.calm.ln]; exact HE9.out.lc.fit.good.2.1) (fun i hi => by rw [HE9.out.lc.calm.ln] at hi ⊢; exact good_at HE9.out.lc.fit.good i (by rw [← HE9.out.lc.fit.good.2.1]; exact hi))).mono ?_
                rintro e wa ⟨gs, cs, rfl, hsec, hba⟩
                rw [HE9.out.lc.calm.ln] at hsec
                have HSec := Lib.hid hsec
                have HBa := Lib.hid hba
                clear hsec hba
                go_wp2_with fail
                refine (scan_ok wa gs cs d8.N (s.passed M) S' HSec.out HE9.out.lc.ok HE9.out.lc.at_ (good_sizes HE9.out.lc.fit) HE9.out.lc.fit.good.2.1).mono ?_
                rintro e wb ⟨vr, z, rfl, htx, hbb⟩
                rw [← HE9.out.age]
                obtain ⟨xa, xc, rfl, htr⟩ := htx.trows
                have HTr := Lib.hid htr
                have HBb := Lib.hid (Below.step hbb HBa.out HBa.out.size)
                have H256 := Lib.hid htx.2.1
                clear htr hbb htx
                have hfewS := HE9.out.lc.few
                go_wp2_with fail
                refine (bytes_any wb xa xc S' HTr.out (by omega) (lc_short HE9.out.lc)).mono ?_
                rintro e wc ⟨rv2, rfl, hrows, hbc⟩
                have HBc := Lib.hid (Below.step hbc HBb.out HBb.out.size)
                have hS := same_of hrows (HE9.out.ow.below HBc.out) (by omega) (by omega)
                rw [decide_eq_true rfl] at hS
                have HS := Lib.hid hS
                clear hS hrows hbc
                go_wp2_with fail
                refine (HS.out _ (Below.refl _ _)).mono ?_
                rintro e wd ⟨rfl, hbd⟩
                have HBd := Lib.hid (Below.step hbd HBc.out HBc.out.size)
                clear hbd HS
                go_wp2_with fail
                go_roundw
                case rel => exact ⟨k + 1, g, F8, s.passed M, d8, S', l2, A, rfl, rfl, rfl, by go_num, by omega, Lib.hid ⟨(HE9.out.lc.to HBd.out).more (by omega), HE9.out.q, HE9.out.ow.below HBd.out, HE9.out.left, HE9.out.age⟩⟩
                case measure => simp [intOf]; omega

          · have hDl : lf < D := by have := HD.out; have := HAt.out; omega
            have HL8 := Lib.hid h8
            clear h8 hr8 hfull x0
            go_wp2_with fail
            refine (HNeed.out _).mono ?_
            rintro e w9 ⟨rfl, rfl⟩
            have hng : (lf : Int) < (D : Int) := by omega
            go_wp2_with fail
            go_roundw
            case rel => exact ⟨k + 1, g, F8, s, d8, S, lf, A, rfl, rfl, rfl, by go_num, by omega, Lib.hid ⟨HL8.out.more (by omega), HQ8.out, HOw8.out, HE.out.left, HE.out.age⟩⟩
            case measure => simp [intOf]; omega
          · exact absurd rfl hr8
        · have h1' : (what == 1) = false := by simpa using h1
          by_cases h2 : what = 2
          · subst h2
            clear h1 h1'
            have HTr := Lib.hid (lc_truncate w2 w7 p g (17 + 60 * k) F s d S HL7.out (by omega) HT2.out)
            obtain ⟨A2, hA2⟩ : ∃ A2, A2 = A + 1 := ⟨_, rfl⟩
            have hA2i : (A : Int) + 1 = (A2 : Int) := by omega
            have hAb := HL7.out.age
            have hAs := HE.out.age
            have hA3 : A2 ≤ 5000 := by omega
            have HA2 := Lib.hid hA2
            clear hA2 hAb hAs
            go_wp2_with fail
            refine HTr.out.mono ?_
            clear HTr
            rintro e w8 ⟨r8, F8, d8, rfl, hex, hqk, han⟩
            have hqk' := hqk HQ7.out.1 HQ7.out.2 HL7.out.calm.off
            have HQ8 : Hid (d8.armed = false ∧ d8.left = 0) := Lib.hid hqk'.2
            have hr8 := hqk'.1
            clear hqk hqk' hex
            rcases han with ⟨rfl, h8⟩ | ⟨rfl, _⟩
            · have HL8 := Lib.hid h8
              clear h8 hr8
              have HE8 : Hid (Et w2 w8 p g F8 s.cut d8 [] (17 + 60 * k + 20) (.slice none 0 0) 12 A2) := Lib.hid ⟨HL8.out, HQ8.out, ow_none _ _ _ _, rfl, by rw [HA2.out, HE.out.age]; rfl⟩
              go_wp2_with fail
              refine (sectors_any w8 F8 p d8 HE8.out.lc.disk (by rw [HE8.out.lc.calm.ln]; exact HE8.out.lc.fit.good.2.1) (fun i hi => by rw [HE8.out.lc.calm.ln] at hi ⊢; exact good_at HE8.out.lc.fit.good i (by rw [← HE8.out.lc.fit.good.2.1]; exact hi))).mono ?_
              rintro e wa ⟨gs, cs, rfl, hsec, hba⟩
              rw [HE8.out.lc.calm.ln] at hsec
              have HSec := Lib.hid hsec
              have HBa := Lib.hid hba
              clear hsec hba
              go_wp2_with fail
              refine (scan_ok wa gs cs d8.N s.cut [] HSec.out HE8.out.lc.ok HE8.out.lc.at_ (good_sizes HE8.out.lc.fit) HE8.out.lc.fit.good.2.1).mono ?_
              rintro e wb ⟨vr, z, rfl, htx, hbb⟩
              rw [← HE8.out.age]
              obtain ⟨xa, xc, rfl, htr⟩ := htx.trows
              have HTr := Lib.hid htr
              have HBb := Lib.hid (Below.step hbb HBa.out HBa.out.size)
              have H256 := Lib.hid htx.2.1
              clear htr hbb htx
              have hfewS := HE8.out.lc.few
              go_wp2_with fail
              refine (bytes_any wb xa xc [] HTr.out (by omega) (lc_short HE8.out.lc)).mono ?_
              rintro e wc ⟨rv2, rfl, hrows, hbc⟩
              have HBc := Lib.hid (Below.step hbc HBb.out HBb.out.size)
              have hS := same_of hrows (HE8.out.ow.below HBc.out) (by omega) (by omega)
              rw [decide_eq_true rfl] at hS
              have HS := Lib.hid hS
              clear hS hrows hbc
              go_wp2_with fail
              refine (HS.out _ (Below.refl _ _)).mono ?_
              rintro e wd ⟨rfl, hbd⟩
              have HBd := Lib.hid (Below.step hbd HBc.out HBc.out.size)
              clear hbd HS
              go_wp2_with fail
              go_roundw
              case rel => exact ⟨k + 1, g, F8, s.cut, d8, [], 12, A2, rfl, rfl, rfl, by go_num, by omega, Lib.hid ⟨(HE8.out.lc.to HBd.out).more (by omega), HE8.out.q, HE8.out.ow.below HBd.out, HE8.out.left, HE8.out.age⟩⟩
              case measure => simp [intOf]; omega
            · exact absurd rfl hr8
          · have h2' : (what == 2) = false := by simpa using h2
            by_cases h3 : what = 3
            · subst h3
              clear h1 h1' h2 h2'
              go_wp2_with fail
              refine (lq_open (HL7.out.lq HQ7.out) HT2.out).mono ?_
              rintro e w8 ⟨rv, rfl, hr8, hl8, hb8⟩
              have hS := same_of hr8 (HOw7.out.opened hb8) (by omega) (by omega)
              rw [decide_eq_true rfl] at hS
              have HS := Lib.hid hS
              have HL8 := Lib.hid hl8
              have HOw8 := Lib.hid (HOw7.out.opened hb8)
              clear hS hr8 hl8 hb8
              go_wp2_with fail
              refine (HS.out _ (Below.refl _ _)).mono ?_
              rintro e w9 ⟨rfl, hb9⟩
              have HE9 : Hid (Et w2 w9 p w7.heap.size F s d S (17 + 60 * k + 20) u8 lf A) := Lib.hid ⟨(HL8.out.to hb9).more (by omega), HQ7.out, HOw8.out.below hb9, HE.out.left, HE.out.age⟩
              clear hb9 HS
              go_wp2_with fail
              refine (sectors_any w9 F p d HE9.out.lc.disk (by rw [HE9.out.lc.calm.ln]; exact HE9.out.lc.fit.good.2.1) (fun i hi => by rw [HE9.out.lc.calm.ln] at hi ⊢; exact good_at HE9.out.lc.fit.good i (by rw [← HE9.out.lc.fit.good.2.1]; exact hi))).mono ?_
              rintro e wa ⟨gs, cs, rfl, hsec, hba⟩
              rw [HE9.out.lc.calm.ln] at hsec
              have HSec := Lib.hid hsec
              have HBa := Lib.hid hba
              clear hsec hba
              go_wp2_with fail
              refine (scan_ok wa gs cs d.N s S HSec.out HE9.out.lc.ok HE9.out.lc.at_ (good_sizes HE9.out.lc.fit) HE9.out.lc.fit.good.2.1).mono ?_
              rintro e wb ⟨vr, z, rfl, htx, hbb⟩
              rw [← HE9.out.age]
              obtain ⟨xa, xc, rfl, htr⟩ := htx.trows
              have HTr := Lib.hid htr
              have HBb := Lib.hid (Below.step hbb HBa.out HBa.out.size)
              have H256 := Lib.hid htx.2.1
              clear htr hbb htx
              have hfewS := HE9.out.lc.few
              go_wp2_with fail
              refine (bytes_any wb xa xc S HTr.out (by omega) (lc_short HE9.out.lc)).mono ?_
              rintro e wc ⟨rv2, rfl, hrows, hbc⟩
              have HBc := Lib.hid (Below.step hbc HBb.out HBb.out.size)
              have hS := same_of hrows (HE9.out.ow.below HBc.out) (by omega) (by omega)
              rw [decide_eq_true rfl] at hS
              have HS := Lib.hid hS
              clear hS hrows hbc
              go_wp2_with fail
              refine (HS.out _ (Below.refl _ _)).mono ?_
              rintro e wd ⟨rfl, hbd⟩
              have HBd := Lib.hid (Below.step hbd HBc.out HBc.out.size)
              clear hbd HS
              go_wp2_with fail
              go_roundw
              case rel => exact ⟨k + 1, w7.heap.size, F, s, d, S, lf, A, rfl, rfl, rfl, by go_num, by omega, Lib.hid ⟨(HE9.out.lc.to HBd.out).more (by omega), HE9.out.q, HE9.out.ow.below HBd.out, HE9.out.left, HE9.out.age⟩⟩
              case measure => simp [intOf]; omega
            · have h3' : (what == 3) = false := by simpa using h3
              have HE9 : Hid (Et w2 w7 p g F s d S (17 + 60 * k + 20) u8 lf A) := Lib.hid ⟨HL7.out.more (by omega), HQ7.out, HOw7.out, HE.out.left, HE.out.age⟩
              go_wp2_with fail
              refine (sectors_any w7 F p d HE9.out.lc.disk (by rw [HE9.out.lc.calm.ln]; exact HE9.out.lc.fit.good.2.1) (fun i hi => by rw [HE9.out.lc.calm.ln] at hi ⊢; exact good_at HE9.out.lc.fit.good i (by rw [← HE9.out.lc.fit.good.2.1]; exact hi))).mono ?_
              rintro e wa ⟨gs, cs, rfl, hsec, hba⟩
              rw [HE9.out.lc.calm.ln] at hsec
              have HSec := Lib.hid hsec
              have HBa := Lib.hid hba
              clear hsec hba
              go_wp2_with fail
              refine (scan_ok wa gs cs d.N s S HSec.out HE9.out.lc.ok HE9.out.lc.at_ (good_sizes HE9.out.lc.fit) HE9.out.lc.fit.good.2.1).mono ?_
              rintro e wb ⟨vr, z, rfl, htx, hbb⟩
              rw [← HE9.out.age]
              obtain ⟨xa, xc, rfl, htr⟩ := htx.trows
              have HTr := Lib.hid htr
              have HBb := Lib.hid (Below.step hbb HBa.out HBa.out.size)
              have H256 := Lib.hid htx.2.1
              clear htr hbb htx
              have hfewS := HE9.out.lc.few
              go_wp2_with fail
              refine (bytes_any wb xa xc S HTr.out (by omega) (lc_short HE9.out.lc)).mono ?_
              rintro e wc ⟨rv2, rfl, hrows, hbc⟩
              have HBc := Lib.hid (Below.step hbc HBb.out HBb.out.size)
              have hS := same_of hrows (HE9.out.ow.below HBc.out) (by omega) (by omega)
              rw [decide_eq_true rfl] at hS
              have HS := Lib.hid hS
              clear hS hrows hbc
              go_wp2_with fail
              refine (HS.out _ (Below.refl _ _)).mono ?_
              rintro e wd ⟨rfl, hbd⟩
              have HBd := Lib.hid (Below.step hbd HBc.out HBc.out.size)
              clear hbd HS
              go_wp2_with fail
              go_roundw
              case rel => exact ⟨k + 1, g, F, s, d, S, lf, A, rfl, rfl, rfl, by go_num, by omega, Lib.hid ⟨(HE9.out.lc.to HBd.out).more (by omega), HE9.out.q, HE9.out.ow.below HBd.out, HE9.out.left, HE9.out.age⟩⟩
              case measure => simp [intOf]; omega
    · have hlt' : ¬ k < len ∨ (k < len ∧ k = 20) := by omega
      clear hlt
      rcases hlt' with hno | ⟨hno, rfl⟩
      all_goals
        go_wp2_with fail
        go_ret
        exact ⟨rfl, Below.step HLc.out.below HB2.out HB2.out.size⟩
theorem walEntries_law {w : World} {H : Type} {enc : TypeId × Value → H} (a : Option Addr) (len cap : Nat) {d : DataW H} {p : List MemPlace} (k : DataW.Trod enc Tryd.prog w 0 (fun _ => true) true 22 (.slice a len cap) d p) (ht : Tab w) :
    Calls Tryd.prog 3 #[.slice a len cap] w fun e w' => e = .returned (.bool true) ∧ Below w.heap.size w w' := by
  obtain ⟨fuel, hf⟩ := k
  obtain ⟨ts, hts⟩ := ents_of (show DataW.trod enc Tryd.prog w 0 (fun _ => true) true fuel 22 [.slice a len cap] = some (d, p) from hf)
  exact entries_walk a len cap ts w hts ht
end Go.Proofs.YtcmnfbpmkndfkaaDoor
