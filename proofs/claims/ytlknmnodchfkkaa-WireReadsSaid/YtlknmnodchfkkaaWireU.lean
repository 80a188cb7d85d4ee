/-
  What the walk of the law WireReads says of memory: the two readers stand apart; rows of calls that came in.
-/
import Derived.Test.YtlknmnodchfkkaaWireR
import Derived.Test.YtlknmnodchfkkaaWireT
import Derived.Deep.Slices
import Derived.Deep.Fields
namespace Go.Proofs.Ytlknmnodchfkkaa
open Go.ChangeShapes Go.WideShapes Go.ChangeAt Go.RowKit Go.Deep
set_option linter.unusedVariables false

/-- append of bytes that came in, whether nil or not, to a row of the call's own -/
theorem wpList_append_bytes {P : Program} {w : World} {ops : Array Oper} {rest : List Oper} {o : Oper} {a : Act} {Q : Exit → Act → World → Prop} (hgd : o.guard = none) (s x : Operand) (t : TypeId)
    (ho : o.op = .call { callee := .builtin .append, args := #[s, x], argTypes := #[t, t] })
    (base : Nat) (e : TypeId) (i : TypeInfo) (z : Value) (ht : P.underlying t = some (.slice e)) (hi : P.info? e = some i) (hz : i.zero = some z)
    (hsize : i.size = 1) (hby : i.bytes = 1) (hzs : z.cells.size = 1)
    (v : Value) (n : Nat) (xs : List Value) (hs : a.eval s = v) (hown : w.ownsRow base e 1 v n xs)
    (A : Option Addr) (m c : Nat) (news : List Value) (hx : a.eval x = .slice A m c) (hA : A = none → m = 0 ∧ c = 0) (hl : news.length = m) (hnews : ∀ ad, A = some ad → ∀ j u, news[j]? = some u → w.cell? (ad.add j) = some u) (h1 : ∀ u ∈ news, u.oneCell' = true)
    (h63 : n + m ≤ 140737488355328) (hbase : base ≤ w.heap.size)
    (h : ∀ v' w', w'.ownsRow base e 1 v' (n + m) (xs ++ news) → w.grownBy w' v.ownBlock → (v ≠ .slice none 0 0 → v' ≠ .slice none 0 0) → wpList P ops Q rest (a.put o.dst v') w') : wpList P ops Q (o :: rest) a w := by
  cases A with
  | none =>
    obtain ⟨rfl, rfl⟩ := hA rfl
    obtain rfl : news = [] := List.eq_nil_of_length_eq_zero hl
    exact wpList_append_own_none hgd s x t ho base e i 1 ht hi v n xs hs hown hx (h v w (by simpa using hown) (World.grownBy.refl _ _) id)
  | some ad =>
    exact wpList_append_own w hgd s x t ho base e i z 1 1 ht hi hz hsize hby hzs (by decide) v n xs hs hown ad m c news hx (by omega) (hnews ad rfl) h1 (by unfold maxLen; omega) (by omega) hbase
      (fun v' w' g1 g2 g3 => h v' w' g1 g2 (fun hv hv' => hv (g3.1 hv').1))
theorem own_empty (W : World) (base : Nat) (hb : base ≤ W.heap.size) : (W.alloc (.cells #[] 5)).ownsRow base 5 1 (.slice (some ⟨W.heap.size, 0, none⟩) 0 0) 0 [] := by
  refine ⟨rfl, .inr ⟨W.heap.size, 0, #[], rfl, hb, ?_, Nat.le_refl _, Nat.zero_le _, rfl, rfl⟩⟩
  show (W.heap.push _)[W.heap.size]? = _
  simp
theorem ByteRow.news {w : World} {a : Option Addr} {n : Nat} {l : List Nat} (h : ByteRow w a n l) : ∀ ad, a = some ad → ∀ j u, (vals l)[j]? = some u → w.cell? (ad.add j) = some u := by
  intro x hx j u hj
  obtain ⟨h1, h2, h3, h4⟩ := h
  have hj2 : j < l.length := by
    rcases Nat.lt_or_ge j l.length with h | h
    · exact h
    · rw [List.getElem?_eq_none (by rw [vals_length]; exact h)] at hj
      cases hj
  obtain ⟨b, o, hx2, hc⟩ := h4 (by omega)
  rw [hx] at hx2
  obtain rfl : x = ⟨b, o, none⟩ := by simpa using hx2
  rw [vals_get l j hj2] at hj
  have hu : u = .int .u8 ((l.getD j 0 : Nat) : Int) := by injection hj with h; exact h.symm
  rw [hu]
  have e1 : (⟨b, o, none⟩ : Addr).add j = ⟨b, o + j, none⟩ := by simp [Addr.add]
  rw [e1]
  exact hc j (by omega)

/-- what is read from, its cells by name -/
theorem open_far (a : Option Addr) (len cap : Nat) (l : List Nat) (w : World) (hr : Bytes w a len cap l) (hl : len ≤ 70368744177664) :
    Calls Try.prog 20 #[.slice a len cap] w fun e w' => ∃ p, e = .returned (.pointer (some ⟨p, 0, none⟩)) ∧ (∃ a3 cap3, w'.heap[p]? = some (.cells #[.slice a3 len cap3, .int .i64 0] 52) ∧ Bytes w' a3 len cap3 l ∧ ∀ x, a3 = some x → w.heap.size ≤ x.block ∧ x.block ≠ p) ∧ w.heap.size ≤ p ∧ Below w.heap.size w w' := by
  have HR := Lib.hid hr
  have hlen := hr.1.1
  clear hr
  go_enter Try.func20, Try.ntmps20
  go_wp2_with (go_at_call 26; refine (clone_any a len cap l _ HR.out hl).mono ?_; rintro e w1 ⟨a2, cap2, rfl, hb, hx, hB⟩; have HBY := Lib.hid hb; have HX := Lib.hid hx; have HB := Lib.hid hB; clear hb hx hB)
  go_ret
  refine ⟨w1.heap.size, rfl, ⟨a2, cap2, ?_, HBY.out.below (Below.alloc' (Below.refl _ _) _), fun x hx => ?_⟩, HB.out.size, Below.alloc' HB.out _⟩
  · show (w1.heap.push _)[w1.heap.size]? = _
    simp
  · have := HX.out x hx
    omega

theorem ByteRow.grown {w w' : World} {a : Option Addr} {n g : Nat} {l : List Nat} (h : ByteRow w a n l) (hg : w.grownBy w' (some g)) (hx : 0 < n → ∀ x, a = some x → x.block ≠ g) : ByteRow w' a n l := by
  refine ⟨h.1, h.2.1, h.2.2.1, fun h0 => ?_⟩
  obtain ⟨b, o, rfl, hc⟩ := h.2.2.2 h0
  refine ⟨b, o, rfl, fun i hi => ?_⟩
  rw [hg.cell_far _ (cell_lt (hc i hi)) (fun e => hx h0 _ rfl (by injection e))]
  exact hc i hi
/-- the two readers stand apart -/
theorem InAt.beside {w w' : World} {p q : Nat} {l : List Nat} {e e2 : Int} {s : ByteArray} (h : InAt w p l e) (r : RefAt w q s e2) (hg : w.grownBy w' (some q)) : InAt w' p l e := by
  obtain ⟨a, len, cap, h1, h2, h3⟩ := h
  have hpq : p ≠ q := by
    rintro rfl
    unfold RefAt at r
    rw [h1] at r
    simp at r
  have hp := InAt.lt ⟨a, len, cap, h1, h2, h3⟩
  refine ⟨a, len, cap, by rw [hg.block p hp (by simpa using hpq)]; exact h1, ⟨h2.1.grown hg (fun h0 x hx hxq => ?_), h2.2⟩, h3⟩
  obtain ⟨b, o, rfl, hc⟩ := h2.1.2.2.2 h0
  obtain rfl : x = ⟨b, o, none⟩ := by simpa using hx.symm
  dsimp only at hxq
  subst hxq
  have h0 := hc 0 h0
  unfold RefAt at r
  simp only [World.cell?, r] at h0
  rcases o with _ | _ | o
  · simp at h0
  · simp at h0
  · simp at h0
theorem RefAt.beside {w w' : World} {p q : Nat} {l : List Nat} {e e2 : Int} {s : ByteArray} (r : RefAt w q s e2) (h : InAt w p l e) (hg : w.grownBy w' (some p)) : RefAt w' q s e2 := by
  have hpq : q ≠ p := by
    rintro rfl
    obtain ⟨a, len, cap, h1, h2, h3⟩ := h
    unfold RefAt at r
    rw [h1] at r
    simp at r
  unfold RefAt at *
  have hq : q < w.heap.size := by
    rcases Nat.lt_or_ge q w.heap.size with h | h
    · exact h
    · rw [Array.getElem?_eq_none h] at r
      cases r
  rw [hg.block q hq (by simpa using hpq)]
  exact r

/-- a struct's one-cell fields, read one by one -/
theorem fields_of {H : Type} {enc : TypeId × Value → H} {P : Program} {w : World} {base : Nat} {spare : Nat → Bool} {held : Bool} {e : TypeId} {fs : Array Field} {fuel : Nat} {ad : Addr} {cs : List Value} {x : DataW H × List MemPlace}
    (he : P.underlying e = some (.struct fs)) (hone : ∀ (j : Nat) (f : Field), fs[j]? = some f → f.offset = j ∧ P.cellsOf f.type = 1) (hc : w.cells? base ad fs.size = some cs) (h : DataW.trod enc P w base spare held fuel e cs = some x) (j : Nat) (f : Field) (hj : fs[j]? = some f) :
    ∃ v y n, w.cell? (ad.add j) = some v ∧ DataW.trod enc P w base spare held n f.type [v] = some y := by
  obtain ⟨ys, n, _, _, _, hyl, hg⟩ := DataW.trod_struct he h
  obtain ⟨_, hcl, hat⟩ := World.cells?_some hc
  obtain ⟨ho, hk⟩ := hone j f hj
  have hjl : j < fs.size := (Array.getElem?_eq_some_iff.1 hj).1
  have hjc : j < cs.length := by omega
  have h1 := hg j f hj
  rw [ho, hk, List.drop_eq_getElem_cons hjc] at h1
  have h2 : DataW.trod enc P w base spare held n f.type [cs[j]] = ys[j]? := h1
  have hjy : j < ys.length := by omega
  rw [List.getElem?_eq_getElem hjy] at h2
  exact ⟨cs[j], ys[j], n, by rw [hat j hjl, List.getElem?_eq_getElem hjc], h2⟩

/-- the calls that came in -/
def TakeRow (w : World) (a : Option Addr) (n : Nat) (ts : Nat → Int × Int × Int) : Prop :=
  n ≤ maxLen ∧ (0 < n → ∃ b o, a = some ⟨b, o, none⟩ ∧ ∀ i, i < n → w.cell? ⟨b, o + i * 3, none⟩ = some (.int .i64 (ts i).1) ∧ w.cell? ⟨b, o + i * 3 + 1, none⟩ = some (.int .i64 (ts i).2.1) ∧ w.cell? ⟨b, o + i * 3 + 2, none⟩ = some (.int .i64 (ts i).2.2))
theorem takes_of {H : Type} {enc : TypeId × Value → H} {w : World} {a : Option Addr} {len cap : Nat} {d : DataW H} {p : List MemPlace} (h : DataW.Trod enc Try.prog w 0 (fun _ => true) true 29 (.slice a len cap) d p) : ∃ ts, TakeRow w a len ts := by
  obtain ⟨fuel, hf⟩ := h
  rcases open_slice Try.underlying29 hf with ⟨hcs, _⟩ | ⟨x, l, c, m, n, D, Pl, hcs, _, hl, hm, hmm, _, hi⟩
  · simp [Value.cells] at hcs
    obtain ⟨rfl, rfl, rfl⟩ := hcs
    exact ⟨fun _ => (0, 0, 0), Nat.zero_le _, fun h => by omega⟩
  · simp [Value.cells] at hcs
    obtain ⟨rfl, rfl, rfl⟩ := hcs
    simp only [if_true] at hmm
    subst hmm
    have hC : Try.prog.cellsOf 42 = 3 := by kernel_rfl
    rw [hC] at hi
    have hall : ∀ i, i < len → ∃ t : Int × Int × Int, w.cell? (x.add (i * 3)) = some (.int .i64 t.1) ∧ w.cell? ((x.add (i * 3)).add 1) = some (.int .i64 t.2.1) ∧ w.cell? ((x.add (i * 3)).add 2) = some (.int .i64 t.2.2) := by
      intro i hil
      obtain ⟨cs', hc, ht⟩ := hi i (by omega)
      have hF := fields_of Try.underlying42 (hone_of (by kernel_rfl)) hc ht
      obtain ⟨v0, y0, n0, c0, t0⟩ := hF 0 _ rfl
      obtain ⟨v1, y1, n1, c1, t1⟩ := hF 1 _ rfl
      obtain ⟨v2, y2, n2, c2, t2⟩ := hF 2 _ rfl
      obtain ⟨z0, e0, _, _⟩ := DataW.trod_int Try.underlying3 t0
      obtain ⟨z1, e1, _, _⟩ := DataW.trod_int Try.underlying3 t1
      obtain ⟨z2, e2, _, _⟩ := DataW.trod_int Try.underlying3 t2
      injection e0 with e0
      injection e1 with e1
      injection e2 with e2
      subst e0 e1 e2
      exact ⟨(z0, z1, z2), by simpa [Addr.add] using c0, c1, c2⟩
    obtain ⟨ts, hts⟩ : ∃ ts : Nat → Int × Int × Int, ∀ i, i < len → w.cell? (x.add (i * 3)) = some (.int .i64 (ts i).1) ∧ w.cell? ((x.add (i * 3)).add 1) = some (.int .i64 (ts i).2.1) ∧ w.cell? ((x.add (i * 3)).add 2) = some (.int .i64 (ts i).2.2) :=
      ⟨fun i => if h : i < len then Classical.choose (hall i h) else (0, 0, 0), fun i h => by
        simp only [dif_pos h]
        exact Classical.choose_spec (hall i h)⟩
    refine ⟨ts, by omega, fun h0 => ?_⟩
    obtain ⟨b, off, spot⟩ := x
    have hc0 := (hts 0 h0).1
    have hspot : spot = none := by simpa [Addr.add] using World.cell?_spot hc0
    subst hspot
    refine ⟨b, off, rfl, fun i hil => ?_⟩
    obtain ⟨c0, c1, c2⟩ := hts i hil
    have e1 : (⟨b, off, none⟩ : Addr).add (i * 3) = ⟨b, off + i * 3, none⟩ := add_plain b off (i * 3)
    rw [e1] at c0 c1 c2
    exact ⟨c0, by simpa [Addr.add] using c1, by simpa [Addr.add] using c2⟩
end Go.Proofs.Ytlknmnodchfkkaa
