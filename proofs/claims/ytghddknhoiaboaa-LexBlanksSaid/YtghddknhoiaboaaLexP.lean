/-
  lex: Scan.
-/
import Derived.Test.YtghddknhoiaboaaLexO
namespace Go.Proofs.Ytghddknhoiaboaa
open Go.ChangeShapes Go.WideShapes Go.ChangeAt Go.RowKit
set_option linter.unusedVariables false
set_option maxRecDepth 100000

theorem any_append {P : Program} {ops : Array Oper} {o : Oper} {A : Act} {W : World} {K : Act → World → Prop} {Q : Exit → Act → World → Prop} {X : Prop} (hgd : o.guard = none) (s x : Operand) (t : TypeId) (ho : o.op = .call { callee := .builtin .append, args := #[s, x], argTypes := #[t, t] }) {v xv v' : Value} {W' : World} (hs : A.eval s = v) (hx : A.eval x = xv) (hr : (Builtin.append_ #[t, t] o.type #[v, xv]).run P W = .ok v' W') (h : K (A.put o.dst v') W') :
    if Region.wanted o (yielded ops A.tmps) = true then o.wp P A W K Q else X := by
  have hw : Region.wanted o (yielded ops A.tmps) = true := by simp [Region.wanted, hgd]
  rw [if_pos hw]
  unfold Oper.wp
  have e : (execOp A.eval o).run P W = .ok (.value v') W' := by
    unfold execOp
    simp only [ho, resolve, invoke, builtin, Sem.run_bind, Sem.run_pure, Result.andThen_ok, List.map_toArray, List.map_cons, List.map_nil, hs, hx, hr]
  rw [e]
  exact h
theorem strS_le : ∀ (f : Nat) (t : List Nat) (b : List Nat) (n : Nat), (∀ c ∈ t, c < 256) → strS f t = .done b n → n ≤ t.length
  | 0, _, _, _, _, h => by cases h
  | _ + 1, [], _, _, _, h => by cases h
  | f + 1, c :: t, b, n, h256, h => by
    have h' : (if c = 34 then StrR.done [] 1 else match charS (c :: t) with
      | .open_ => .open_
      | .bad k => .bad k
      | .ok b n => pre [b] n (strS f ((c :: t).drop n))) = .done b n := h
    split at h'
    · injection h' with h1 h2
      rw [List.length_cons]; omega
    · cases hc : charS (c :: t) with
      | open_ => rw [hc] at h'; cases h'
      | bad k => rw [hc] at h'; cases h'
      | ok d m =>
        rw [hc] at h'
        have h3 : pre [d] m (strS f ((c :: t).drop m)) = .done b n := h'
        obtain ⟨hm1, hm2, _⟩ := charS_len hc h256
        cases hr : strS f ((c :: t).drop m) with
        | done b2 n2 =>
          rw [hr] at h3
          injection h3 with h4 h5
          have := strS_le f _ _ _ (fun x hx => h256 x (List.mem_of_mem_drop hx)) hr
          rw [List.length_drop] at this
          omega
        | open_ => rw [hr] at h3; cases h3
        | bad k => rw [hr] at h3; cases h3
theorem tokS_le (s : ByteArray) (i : Nat) (hi : i < s.size) {k n : Int} {t : ByteArray} {len : Nat} (h : tokS s i = .tok k n t len) : i + len ≤ s.size := by
  have hbl := bytesOf_length s
  have hd : ((bytesOf s).drop (i + 1)).length = s.size - (i + 1) := by rw [List.length_drop, hbl]
  have hd0 : ((bytesOf s).drop i).length = s.size - i := by rw [List.length_drop, hbl]
  unfold tokS at h
  split at h
  · injection h; omega
  · split at h
    · injection h; omega
    · split at h
      · split at h
        · rename_i b m hr
          have hm := strS_le _ _ _ _ (fun c hc => bytesOf_lt s c (List.mem_of_mem_drop hc)) hr
          split at h
          · injection h; omega
          · cases h
        · cases h
        · cases h
      · have := wordLen_le ((bytesOf s).drop i)
        split at h
        · injection h; omega
        · cases h
theorem own_slice {w : World} {base n size : Nat} {e : TypeId} {v : Value} {xs : List Value} (h : w.ownsRow base e size v n xs) : ∃ a cap, v = .slice a n cap := by
  obtain ⟨_, h2⟩ := h
  rcases h2 with ⟨rfl, rfl⟩ | ⟨g, cap, cur, rfl, _⟩
  · exact ⟨none, 0, rfl⟩
  · exact ⟨some ⟨g, 0, none⟩, cap, rfl⟩
theorem scanF_skip (s : ByteArray) (f i : Nat) : scanF s f i = scanF s f (i + blankLen false ((bytesOf s).drop i)) := by
  have hfix : blankLen false ((bytesOf s).drop (i + blankLen false ((bytesOf s).drop i))) = 0 := by
    rw [← List.drop_drop]
    exact blank_fix false _
  cases f with
  | zero => rfl
  | succ f =>
    by_cases h : s.size ≤ i + blankLen false ((bytesOf s).drop i)
    · rw [scanF_end s f i h, scanF_end s f _ (by rw [hfix]; exact h)]
    · rw [scanF_step s f i h, scanF_step s f _ (by rw [hfix]; exact h), hfix, Nat.add_zero]
structure SX (w W : World) (v : Value) : Prop where
  below : Below w.heap.size w W
  a : W.heap[w.heap.size]? = some (.cells #[v] 23)
  b : W.heap[w.heap.size + 1]? = some (.cells #[.int .i64 0, .int .i64 0] 25)
  c : W.heap[w.heap.size + 1 + 1]? = some (.cells #[.int .i64 0] 26)
  size : w.heap.size + 4 ≤ W.heap.size
theorem SW.x {w W : World} {s : ByteArray} {i : Nat} {v : Value} {L : List Tok} (h : SW w W s i v L) : SX w W v := ⟨h.below, h.a, h.b, h.c, h.size⟩
theorem SX.only {w W W' : World} {v : Value} (h : SX w W v) (ho : Only (fun k => k = w.heap.size + 1 + 1 + 1) W W') : SX w W' v := by
  have hz := h.size
  refine ⟨?_, ?_, ?_, ?_, Nat.le_trans hz ho.size⟩
  · have hb := h.below
    exact ⟨ho.os.trans hb.os, ho.tape.trans hb.tape, ho.output.trans hb.output, Nat.le_trans hb.size ho.size, fun k hk => (ho.block k (by omega) (by omega)).trans (hb.block k hk)⟩
  · rw [ho.block _ (by omega) (by omega)]; exact h.a
  · rw [ho.block _ (by omega) (by omega)]; exact h.b
  · rw [ho.block _ (by omega) (by omega)]; exact h.c
theorem SX.caught {w W W2 : World} {v : Value} (h : SX w W v) (x : Value) (lo co er : Int) (hb : Below W.heap.size ((((W.setCell ⟨w.heap.size, 0, none⟩ x).setCell ⟨w.heap.size + 1, 0, none⟩ (.int .i64 lo)).setCell ⟨w.heap.size + 1, 1, none⟩ (.int .i64 co)).setCell ⟨w.heap.size + 1 + 1, 0, none⟩ (.int .i64 er)) W2) :
    W2.cell? ⟨w.heap.size, 0, none⟩ = some x ∧ W2.cell? ⟨w.heap.size + 1, 0, none⟩ = some (.int .i64 lo) ∧ W2.cell? ⟨w.heap.size + 1, 1, none⟩ = some (.int .i64 co) ∧ W2.cell? ⟨w.heap.size + 1 + 1, 0, none⟩ = some (.int .i64 er) ∧ Below w.heap.size w W2 := by
  have hz := h.size
  have n1 : w.heap.size ≠ w.heap.size + 1 := by omega
  have n2 : w.heap.size ≠ w.heap.size + 1 + 1 := by omega
  have n3 : w.heap.size + 1 ≠ w.heap.size := by omega
  have n4 : w.heap.size + 1 ≠ w.heap.size + 1 + 1 := by omega
  have n5 : w.heap.size + 1 + 1 ≠ w.heap.size := by omega
  have n6 : w.heap.size + 1 + 1 ≠ w.heap.size + 1 := by omega
  have ea := hb.block w.heap.size (by omega)
  rw [Below.heap_setCell _ _ _ _ n2, Below.heap_setCell _ _ _ _ n1, Below.heap_setCell _ _ _ _ n1, set_put W _ 0 _ h.a] at ea
  have eb := hb.block (w.heap.size + 1) (by omega)
  rw [Below.heap_setCell _ _ _ _ n4, set_put _ _ 1 _ (set_put _ _ 0 _ ((Below.heap_setCell W ⟨w.heap.size, 0, none⟩ _ _ n3).trans h.b))] at eb
  have ec := hb.block (w.heap.size + 1 + 1) (by omega)
  rw [set_put _ _ 0 _ (((Below.heap_setCell _ _ _ _ n6).trans ((Below.heap_setCell _ _ _ _ n6).trans (Below.heap_setCell W ⟨w.heap.size, 0, none⟩ _ _ n5))).trans h.c)] at ec
  refine ⟨cell_of_row W2 _ 0 _ _ (0, 0) ea, cell_of_row W2 _ 0 _ _ (0, 0) eb, cell_of_row W2 _ 1 _ _ (0, 0) eb, cell_of_row W2 _ 0 _ _ (0, 0) ec, ?_⟩
  have h2 := h.below
  have h3 : Below w.heap.size w ((((W.setCell ⟨w.heap.size, 0, none⟩ x).setCell ⟨w.heap.size + 1, 0, none⟩ (.int .i64 lo)).setCell ⟨w.heap.size + 1, 1, none⟩ (.int .i64 co)).setCell ⟨w.heap.size + 1 + 1, 0, none⟩ (.int .i64 er)) :=
    (((h2.setCell (Nat.le_refl _) _).setCell (Nat.le_succ _) _).setCell (Nat.le_succ _) _).setCell (show w.heap.size ≤ w.heap.size + 1 + 1 by omega) _
  exact h3.trans (hb.mono (by omega))
def ScanP (w : World) (s : ByteArray) (e : Ending) (w' : World) : Prop :=
  (match scanS s with
    | .ok L => ∃ v, e = .returned (.tuple #[v, .agg #[.int .i64 0, .int .i64 0], .int .i64 0]) ∧ w'.ownsRow (w.heap.size + 4) 44 5 v L.length (toks L)
    | .bad p => e = .returned (.tuple #[.slice none 0 0, .agg #[.int .i64 (p.1 : Int), .int .i64 (p.2 : Int)], .int .i64 10])) ∧ Below w.heap.size w w'
set_option maxHeartbeats 4000000 in
theorem scan_any (s : ByteArray) (hs : s.size ≤ 65000) (w : World) (mx : Int) (hmx : w.cell? ⟨1, 0, none⟩ = some (.int .i64 mx)) :
    Calls Try.prog 10 #[.string s] w (ScanP w s) := by
  have hmf : ∀ (fn : Fn) (first cap : Array Value) (w : World), (Instr.makeFunc fn first cap).run Try.prog w = .ok (.func fn first cap) w := fun _ _ _ _ => rfl
  have h1 : ¬ (65536 : Int) < (s.size : Int) := by omega
  have hlt := lt_of_cell hmx
  have HM : Hid (∀ W, Below w.heap.size w W → W.cell? ⟨1, 0, none⟩ = some (.int .i64 mx)) := Lib.hid (fun W hb => by
    rw [World.cell?_of_block (a := ⟨1, 0, none⟩) (hb.block _ hlt)]
    exact hmx)
  have HNe : Hid (1 ≠ w.heap.size + 1 + 1 + 1) := Lib.hid (by omega)
  have hbl := bytesOf_length s
  obtain ⟨W0, hW0⟩ : ∃ W0, W0 = (((w.alloc (.cells #[.slice none 0 0] 23)).alloc (.cells #[.int .i64 0, .int .i64 0] 25)).alloc (.cells #[.int .i64 0] 26)).alloc (.cells #[.string s, .int .i64 0, .int .i64 1, .int .i64 1] 55) := ⟨_, rfl⟩
  have HSW0 : Hid (SW w W0 s 0 (.slice none 0 0) []) := Lib.hid (by
    have e1 := size_alloc' w (.cells #[.slice none 0 0] 23)
    have e2 := size_alloc' (w.alloc (.cells #[.slice none 0 0] 23)) (.cells #[.int .i64 0, .int .i64 0] 25)
    have e3 := size_alloc' ((w.alloc (.cells #[.slice none 0 0] 23)).alloc (.cells #[.int .i64 0, .int .i64 0] 25)) (.cells #[.int .i64 0] 26)
    have q1 := heap_alloc w (.cells #[.slice none 0 0] 23)
    have q2 := heap_alloc (w.alloc (.cells #[.slice none 0 0] 23)) (.cells #[.int .i64 0, .int .i64 0] 25)
    have q3 := heap_alloc ((w.alloc (.cells #[.slice none 0 0] 23)).alloc (.cells #[.int .i64 0, .int .i64 0] 25)) (.cells #[.int .i64 0] 26)
    have q4 := heap_alloc (((w.alloc (.cells #[.slice none 0 0] 23)).alloc (.cells #[.int .i64 0, .int .i64 0] 25)).alloc (.cells #[.int .i64 0] 26)) (.cells #[.string s, .int .i64 0, .int .i64 1, .int .i64 1] 55)
    rw [← hW0] at q4
    generalize hA : w.alloc (.cells #[.slice none 0 0] 23) = WA at *
    generalize hB : WA.alloc (.cells #[.int .i64 0, .int .i64 0] 25) = WB at *
    generalize hC : WB.alloc (.cells #[.int .i64 0] 26) = WC at *
    have bA : Below w.heap.size w WA := by rw [← hA]; exact (Below.refl _ _).alloc (Nat.le_refl _) _
    have bB : Below WA.heap.size WA WB := by rw [← hB]; exact (Below.refl _ _).alloc (Nat.le_refl _) _
    have bC : Below WB.heap.size WB WC := by rw [← hC]; exact (Below.refl _ _).alloc (Nat.le_refl _) _
    have bD : Below WC.heap.size WC W0 := by rw [hW0]; exact (Below.refl _ _).alloc (Nat.le_refl _) _
    rw [e3, e2, e1] at q4
    rw [e2, e1] at q3
    rw [e1] at q2
    refine ⟨bA.trans ((bB.mono (by omega)).trans ((bC.mono (by omega)).trans (bD.mono (by omega)))), ?_, ?_, ?_, q4, toks_none _ _⟩
    · rw [bD.block _ (by omega), bC.block _ (by omega), bB.block _ (by omega)]; exact q1
    · rw [bD.block _ (by omega), bC.block _ (by omega)]; exact q2
    · rw [bD.block _ (by omega)]; exact q3)
  have HB := Lib.hid (blanks_any W0 (w.heap.size + 1 + 1 + 1) s 0 HSW0.out.t (Nat.zero_le _) (by omega))
  have HW0 := Lib.hid hW0
  obtain ⟨i0, hi0⟩ : ∃ i0, i0 = 0 + blankLen false ((bytesOf s).drop 0) := ⟨_, rfl⟩
  have hi0s : i0 ≤ s.size := by
    have := blank_le false ((bytesOf s).drop 0)
    rw [List.length_drop, hbl] at this
    omega
  have HI0 : Hid (blankLen false ((bytesOf s).drop i0) = 0 ∧ scanS s = ScR.pre [] (scanF s (s.size + 1) i0)) := Lib.hid (by
    refine ⟨?_, ?_⟩
    · rw [hi0, ← List.drop_drop]
      exact blank_fix false _
    · rw [pre_nil]
      unfold scanS
      rw [hi0]
      exact scanF_skip s _ 0)
  rw [← hi0] at HB
  clear hW0 hmx hlt hi0
  go_enter_defers Try.func10, Try.ntmps10
  go_wp2_with fail
  rw [← HW0.out]
  refine HB.out.mono ?_
  clear HB
  rintro e w1 ⟨rfl, ht1, ho1⟩
  have HSW1 := Lib.hid (HSW0.out.only ho1 ht1)
  clear ht1 ho1
  go_wp2_with fail
  go_loopw [16] (fun _ wr => ∃ (i f : Nat) (v : Value) (L : List Tok), i ≤ s.size ∧ s.size - i < f ∧ L.length ≤ i ∧ Hid (blankLen false ((bytesOf s).drop i) = 0) ∧ Hid (scanS s = ScR.pre L (scanF s f i)) ∧ Hid (SW w wr s i v L)) (fun _ wr => s.size - idxOf wr (w.heap.size + 1 + 1 + 1))
  case atStart => exact ⟨i0, s.size + 1, _, [], hi0s, by omega, Nat.zero_le _, Lib.hid HI0.out.1, Lib.hid HI0.out.2, HSW1⟩
  case round =>
    obtain ⟨i, f, v, L, his, hif, hLi, HBz, HSc, HS⟩ := hrel
    obtain ⟨va, vc, rfl⟩ := own_slice HS.out.r
    have HMo := Lib.hid (more_any wr (w.heap.size + 1 + 1 + 1) s i HS.out.t (by omega))
    by_cases hlt : i < s.size
    · rw [decide_eq_true hlt] at HMo
      go_wp2_with fail
      refine HMo.out.mono ?_
      clear HMo
      rintro e w2 ⟨rfl, hb2⟩
      have HS2 := Lib.hid (HS.out.step hb2)
      clear hb2
      have HTk := Lib.hid (fun W (hT : TextAt W (w.heap.size + 1 + 1 + 1) s i) (hm : W.cell? ⟨1, 0, none⟩ = some (.int .i64 mx)) => token_any W (w.heap.size + 1 + 1 + 1) s i hT hlt hs mx hm HNe.out HBz.out)
      cases htk : tokS s i with
      | bad k =>
        have HTk2 : Hid (∀ W, TextAt W (w.heap.size + 1 + 1 + 1) s i → W.cell? ⟨1, 0, none⟩ = some (.int .i64 mx) → Calls Try.prog 20 #[.pointer (some ⟨w.heap.size + 1 + 1 + 1, 0, none⟩)] W fun e w' => Thrown e (posAt (bytesOf s) k) ∧ Only (fun k => k = w.heap.size + 1 + 1 + 1) W w') := Lib.hid (fun W hT hm => (HTk.out W hT hm).mono (fun e w' h => by
          unfold TokPost at h
          rw [htk] at h
          exact h))
        have HBad : Hid (scanS s = .bad (posAt (bytesOf s) k)) := Lib.hid (by
          have hsc := HSc.out
          obtain ⟨f2, rfl⟩ : ∃ f2, f = f2 + 1 := ⟨f - 1, by omega⟩
          rw [scanF_step s f2 i (by have := HBz.out; omega), HBz.out, Nat.add_zero, htk] at hsc
          exact hsc)
        clear htk HTk
        have ca := cell_of_row w2 w.heap.size 0 _ _ (0, 0) HS2.out.a
        go_wp2_with fail
        refine wp_region_any (by kernel_rfl) ?_
        change wpAny _ _ _ _ _ _ _ (World.drew _)
        refine wpAny_ready (rs := [0, 1]) (by kernel_rfl) (by simp) ?_
        refine AllReady.cons rfl (fun K hK => ?_) (AllReady.cons rfl (fun K hK => ?_) AllReady.nil)
        · go_simp
          refine hK _ _ ?_
          clear hK K
          refine wpAny_ready (rs := [1]) (by kernel_rfl) (by simp) ?_
          refine AllReady.cons rfl (fun K hK => ?_) AllReady.nil
          go_simp
          refine (HTk2.out w2.drew HS2.out.t (HM.out w2 HS2.out.below)).mono ?_
          rintro e w5 ⟨hth, ho5⟩
          have ho5' : Only (fun k => k = w.heap.size + 1 + 1 + 1) w2 w5 := ⟨ho5.os, ho5.tape, ho5.output, ho5.size, ho5.block⟩
          have HX5 := Lib.hid (HS2.out.x.only ho5')
          clear ho5 ho5'
          unfold Thrown at hth
          subst hth
          have c5a := cell_of_row w5 w.heap.size 0 _ _ (0, 0) HX5.out.a
          have z5a := frozen_of_row w5 w.heap.size 0 _ _ HX5.out.a
          have c5b0 := cell_of_row w5 (w.heap.size + 1) 0 _ _ (0, 0) HX5.out.b
          have c5b1 := cell_of_row w5 (w.heap.size + 1) 1 _ _ (0, 0) HX5.out.b
          have z5b0 := frozen_of_row w5 (w.heap.size + 1) 0 _ _ HX5.out.b
          have z5b1 := frozen_of_row w5 (w.heap.size + 1) 1 _ _ HX5.out.b
          have c5c := cell_of_row w5 (w.heap.size + 1 + 1) 0 _ _ (0, 0) HX5.out.c
          have z5c := frozen_of_row w5 (w.heap.size + 1 + 1) 0 _ _ HX5.out.c
          refine leaves_cons (f := 17) (args := #[.pointer (some ⟨w.heap.size, 0, none⟩), .pointer (some ⟨w.heap.size + 1, 0, none⟩), .pointer (some ⟨w.heap.size + 1 + 1, 0, none⟩)]) (by simp) (by simp [go_sem]) ?_
          refine (catch_wrong w.heap.size (w.heap.size + 1) (w.heap.size + 1 + 1) _ _ _ w5 [] (by omega) (by omega) (by omega) c5a z5a c5b0 c5b1 z5b0 z5b1 c5c z5c).mono ?_
          rintro e u' w6 ⟨rfl, rfl, hb6⟩
          obtain ⟨e0, e1, e2, e3, hbd⟩ := HX5.out.caught _ _ _ _ hb6
          have hfin : ScanP w s (.returned (.tuple #[.slice none 0 0, .agg #[.int .i64 ((posAt (bytesOf s) k).1 : Int), .int .i64 ((posAt (bytesOf s) k).2 : Int)], .int .i64 10])) w6 := by
            unfold ScanP
            refine ⟨?_, hbd⟩
            rw [HBad.out]
          clear c5a z5a c5b0 c5b1 z5b0 z5b1 c5c z5c
          simp [Leaves, settle, results, Try.results10, go_sem, e0, e1, e2, e3]
          exact hfin
        · go_simp
          refine (HTk2.out w2.drew HS2.out.t (HM.out w2 HS2.out.below)).mono ?_
          rintro e w5 ⟨hth, ho5⟩
          have ho5' : Only (fun k => k = w.heap.size + 1 + 1 + 1) w2 w5 := ⟨ho5.os, ho5.tape, ho5.output, ho5.size, ho5.block⟩
          have HX5 := Lib.hid (HS2.out.x.only ho5')
          clear ho5 ho5'
          unfold Thrown at hth
          subst hth
          have c5a := cell_of_row w5 w.heap.size 0 _ _ (0, 0) HX5.out.a
          have z5a := frozen_of_row w5 w.heap.size 0 _ _ HX5.out.a
          have c5b0 := cell_of_row w5 (w.heap.size + 1) 0 _ _ (0, 0) HX5.out.b
          have c5b1 := cell_of_row w5 (w.heap.size + 1) 1 _ _ (0, 0) HX5.out.b
          have z5b0 := frozen_of_row w5 (w.heap.size + 1) 0 _ _ HX5.out.b
          have z5b1 := frozen_of_row w5 (w.heap.size + 1) 1 _ _ HX5.out.b
          have c5c := cell_of_row w5 (w.heap.size + 1 + 1) 0 _ _ (0, 0) HX5.out.c
          have z5c := frozen_of_row w5 (w.heap.size + 1 + 1) 0 _ _ HX5.out.c
          refine leaves_cons (f := 17) (args := #[.pointer (some ⟨w.heap.size, 0, none⟩), .pointer (some ⟨w.heap.size + 1, 0, none⟩), .pointer (some ⟨w.heap.size + 1 + 1, 0, none⟩)]) (by simp) (by simp [go_sem]) ?_
          refine (catch_wrong w.heap.size (w.heap.size + 1) (w.heap.size + 1 + 1) _ _ _ w5 [] (by omega) (by omega) (by omega) c5a z5a c5b0 c5b1 z5b0 z5b1 c5c z5c).mono ?_
          rintro e u' w6 ⟨rfl, rfl, hb6⟩
          obtain ⟨e0, e1, e2, e3, hbd⟩ := HX5.out.caught _ _ _ _ hb6
          have hfin : ScanP w s (.returned (.tuple #[.slice none 0 0, .agg #[.int .i64 ((posAt (bytesOf s) k).1 : Int), .int .i64 ((posAt (bytesOf s) k).2 : Int)], .int .i64 10])) w6 := by
            unfold ScanP
            refine ⟨?_, hbd⟩
            rw [HBad.out]
          clear c5a z5a c5b0 c5b1 z5b0 z5b1 c5c z5c
          simp [Leaves, settle, results, Try.results10, go_sem, e0, e1, e2, e3]
          exact hfin
      | tok k n t len =>
        have hlen := tokS_len s i hlt HBz.out htk
        have HTk2 : Hid (∀ W, TextAt W (w.heap.size + 1 + 1 + 1) s i → W.cell? ⟨1, 0, none⟩ = some (.int .i64 mx) → Calls Try.prog 20 #[.pointer (some ⟨w.heap.size + 1 + 1 + 1, 0, none⟩)] W fun e w' => e = .returned (.agg #[.int .i64 k, .int .i64 ((posAt (bytesOf s) i).1 : Int), .int .i64 ((posAt (bytesOf s) i).2 : Int), .int .i64 n, .string t]) ∧ TextAt w' (w.heap.size + 1 + 1 + 1) s (i + len) ∧ Only (fun k => k = w.heap.size + 1 + 1 + 1) W w') := Lib.hid (fun W hT hm => (HTk.out W hT hm).mono (fun e w' h => by
          unfold TokPost at h
          rw [htk] at h
          exact ⟨h.1.1, h.1.2, h.2⟩))
        have hle := tokS_le s i hlt htk
        have HL9 : Hid ((L ++ [(⟨k, posAt (bytesOf s) i, n, t⟩ : Tok)]).length = L.length + 1) := Lib.hid (by rw [List.length_append]; rfl)
        have HGood : Hid (∀ f2, f = f2 + 1 → scanS s = ScR.pre (L ++ [⟨k, posAt (bytesOf s) i, n, t⟩]) (scanF s f2 (i + len))) := Lib.hid (fun f2 hf2 => by
          have hsc := HSc.out
          subst hf2
          rw [scanF_step s f2 i (by have := HBz.out; omega), HBz.out, Nat.add_zero, htk] at hsc
          rw [hsc]
          exact pre_cons _ _ _)
        clear htk HTk
        obtain ⟨P, hP⟩ : ∃ P, P = posAt (bytesOf s) i := ⟨_, rfl⟩
        rw [← hP] at HTk2 HGood HL9
        clear hP
        have ca := cell_of_row w2 w.heap.size 0 _ _ (0, 0) HS2.out.a
        go_upto_region 8 with fail
        refine wp_region_any (by kernel_rfl) ?_
        change wpAny _ _ _ _ _ _ _ (World.drew _)
        refine wpAny_ready (rs := [0, 1]) (by kernel_rfl) (by simp) ?_
        refine AllReady.cons rfl (fun K hK => ?_) (AllReady.cons rfl (fun K hK => ?_) AllReady.nil)
        · go_simp
          refine hK _ _ ?_
          clear hK K
          refine wpAny_ready (rs := [1]) (by kernel_rfl) (by simp) ?_
          refine AllReady.cons rfl (fun K hK => ?_) AllReady.nil
          go_simp
          refine (HTk2.out w2.drew HS2.out.t (HM.out w2 HS2.out.below)).mono ?_
          rintro e w5 ⟨rfl, ht5, ho5⟩
          have HS5 := Lib.hid (HS2.out.only ⟨ho5.os, ho5.tape, ho5.output, ho5.size, ho5.block⟩ ht5)
          have c5 := cell_of_row w5 w.heap.size 0 _ _ (0, 0) HS5.out.a
          have z5 := frozen_of_row w5 w.heap.size 0 _ _ HS5.out.a
          clear ht5 ho5
          refine hK _ _ ?_
          clear hK K
          refine wpAny_ready (rs := [2]) (by kernel_rfl) (by simp) ?_
          refine AllReady.cons rfl (fun K hK => ?_) AllReady.nil
          go_simp
          refine hK _ _ ?_
          clear hK K
          refine wpAny_ready (rs := [3]) (by kernel_rfl) (by simp) ?_
          refine AllReady.cons rfl (fun K hK => ?_) AllReady.nil
          have hal : Below w5.heap.size w5 (w5.alloc (.cells #[.int .i64 k, .int .i64 (P.1 : Int), .int .i64 (P.2 : Int), .int .i64 n, .string t] 44)) := (Below.refl _ _).alloc (Nat.le_refl _) _
          have hz5 := HS5.out.size
          obtain ⟨nv, W9, hr, hown, hb9⟩ := run_snoc_tok (w5.alloc (.cells #[.int .i64 k, .int .i64 (P.1 : Int), .int .i64 (P.2 : Int), .int .i64 n, .string t] 44)) 23 (w.heap.size + 4) w5.heap.size (.slice va L.length vc) L ⟨k, P, n, t⟩ (own_only HS5.out.r (Only.of_below (F := fun _ => False) hal) (fun _ _ h => h)) (fun j u hu => cell_at0 w5 _ _ j u (by
            show (tokCells ⟨k, P, n, t⟩).toArray[j]? = some u
            rw [List.getElem?_toArray]
            exact hu)) (by omega) (by have := hal.size; omega)
          refine any_append rfl (.tmp 18) (.tmp 20) 23 rfl rfl rfl hr ?_
          refine hK _ _ ?_
          clear hK K hr
          have hb59 : Below (w.heap.size + 4) w5 W9 := (hal.mono hz5).trans hb9
          obtain ⟨va9, vc9, rfl⟩ := own_slice hown
          have HS10 := Lib.hid (HS5.out.snoc hb59 hown)
          have ea9 := (hb59.block w.heap.size (by omega)).trans HS5.out.a
          have c9 := cell_of_row W9 w.heap.size 0 _ _ (0, 0) ea9
          have z9 := frozen_of_row W9 w.heap.size 0 _ _ ea9
          clear hal hz5 hb9 hb59 hown ea9 c5 z5 ca
          generalize (L ++ [(⟨k, P, n, t⟩ : Tok)]) = L9 at *
          refine wpAny_ready (rs := [4]) (by kernel_rfl) (by simp) ?_
          refine AllReady.cons rfl (fun K hK => ?_) AllReady.nil
          go_simp
          refine hK _ _ ?_
          clear hK K
          refine wpAny_done (by kernel_rfl) ?_ _
          have HBl := Lib.hid (blanks_any _ (w.heap.size + 1 + 1 + 1) s (i + len) HS10.out.t hle (by omega))
          have HS11 := HS10
          clear c9 z9 HS10
          generalize (W9.setCell ⟨w.heap.size, 0, none⟩ (.slice va9 L9.length vc9)) = WA at *
          go_wp2_with fail
          refine HBl.out.mono ?_
          clear HBl
          rintro e w12 ⟨rfl, ht12, ho12⟩
          have HS12 := Lib.hid (HS11.out.only ho12 ht12)
          clear ht12 ho12
          go_wp2_with fail
          go_roundw
          case rel =>
            refine ⟨i + len + blankLen false ((bytesOf s).drop (i + len)), f - 1, _, L9, ?_, ?_, ?_, Lib.hid ?_, Lib.hid ?_, HS12⟩
            · have := blank_le false ((bytesOf s).drop (i + len))
              rw [List.length_drop, hbl] at this
              omega
            · omega
            · rw [HL9.out]; omega
            · rw [← List.drop_drop]
              exact blank_fix false _
            · rw [← scanF_skip]
              exact HGood.out (f - 1) (by omega)
          case measure =>
            rw [idxOf_at HS12.out.t, idxOf_at HS.out.t]
            omega
        · go_simp
          refine (HTk2.out w2.drew HS2.out.t (HM.out w2 HS2.out.below)).mono ?_
          rintro e w5 ⟨rfl, ht5, ho5⟩
          have HS5 := Lib.hid (HS2.out.only ⟨ho5.os, ho5.tape, ho5.output, ho5.size, ho5.block⟩ ht5)
          have c5 := cell_of_row w5 w.heap.size 0 _ _ (0, 0) HS5.out.a
          have z5 := frozen_of_row w5 w.heap.size 0 _ _ HS5.out.a
          clear ht5 ho5
          refine hK _ _ ?_
          clear hK K
          refine wpAny_ready (rs := [0, 2]) (by kernel_rfl) (by simp) ?_
          refine AllReady.cons rfl (fun K hK => ?_) (AllReady.cons rfl (fun K hK => ?_) AllReady.nil)
          · go_simp
            refine hK _ _ ?_
            clear hK K
            refine wpAny_ready (rs := [2]) (by kernel_rfl) (by simp) ?_
            refine AllReady.cons rfl (fun K hK => ?_) AllReady.nil
            go_simp
            refine hK _ _ ?_
            clear hK K
            refine wpAny_ready (rs := [3]) (by kernel_rfl) (by simp) ?_
            refine AllReady.cons rfl (fun K hK => ?_) AllReady.nil
            have hal : Below w5.heap.size w5 (w5.alloc (.cells #[.int .i64 k, .int .i64 (P.1 : Int), .int .i64 (P.2 : Int), .int .i64 n, .string t] 44)) := (Below.refl _ _).alloc (Nat.le_refl _) _
            have hz5 := HS5.out.size
            obtain ⟨nv, W9, hr, hown, hb9⟩ := run_snoc_tok (w5.alloc (.cells #[.int .i64 k, .int .i64 (P.1 : Int), .int .i64 (P.2 : Int), .int .i64 n, .string t] 44)) 23 (w.heap.size + 4) w5.heap.size (.slice va L.length vc) L ⟨k, P, n, t⟩ (own_only HS5.out.r (Only.of_below (F := fun _ => False) hal) (fun _ _ h => h)) (fun j u hu => cell_at0 w5 _ _ j u (by
              show (tokCells ⟨k, P, n, t⟩).toArray[j]? = some u
              rw [List.getElem?_toArray]
              exact hu)) (by omega) (by have := hal.size; omega)
            refine any_append rfl (.tmp 18) (.tmp 20) 23 rfl rfl rfl hr ?_
            refine hK _ _ ?_
            clear hK K hr
            have hb59 : Below (w.heap.size + 4) w5 W9 := (hal.mono hz5).trans hb9
            obtain ⟨va9, vc9, rfl⟩ := own_slice hown
            have HS10 := Lib.hid (HS5.out.snoc hb59 hown)
            have ea9 := (hb59.block w.heap.size (by omega)).trans HS5.out.a
            have c9 := cell_of_row W9 w.heap.size 0 _ _ (0, 0) ea9
            have z9 := frozen_of_row W9 w.heap.size 0 _ _ ea9
            clear hal hz5 hb9 hb59 hown ea9 c5 z5 ca
            generalize (L ++ [(⟨k, P, n, t⟩ : Tok)]) = L9 at *
            refine wpAny_ready (rs := [4]) (by kernel_rfl) (by simp) ?_
            refine AllReady.cons rfl (fun K hK => ?_) AllReady.nil
            go_simp
            refine hK _ _ ?_
            clear hK K
            refine wpAny_done (by kernel_rfl) ?_ _
            have HBl := Lib.hid (blanks_any _ (w.heap.size + 1 + 1 + 1) s (i + len) HS10.out.t hle (by omega))
            have HS11 := HS10
            clear c9 z9 HS10
            generalize (W9.setCell ⟨w.heap.size, 0, none⟩ (.slice va9 L9.length vc9)) = WA at *
            go_wp2_with fail
            refine HBl.out.mono ?_
            clear HBl
            rintro e w12 ⟨rfl, ht12, ho12⟩
            have HS12 := Lib.hid (HS11.out.only ho12 ht12)
            clear ht12 ho12
            go_wp2_with fail
            go_roundw
            case rel =>
              refine ⟨i + len + blankLen false ((bytesOf s).drop (i + len)), f - 1, _, L9, ?_, ?_, ?_, Lib.hid ?_, Lib.hid ?_, HS12⟩
              · have := blank_le false ((bytesOf s).drop (i + len))
                rw [List.length_drop, hbl] at this
                omega
              · omega
              · rw [HL9.out]; omega
              · rw [← List.drop_drop]
                exact blank_fix false _
              · rw [← scanF_skip]
                exact HGood.out (f - 1) (by omega)
            case measure =>
              rw [idxOf_at HS12.out.t, idxOf_at HS.out.t]
              omega
          · go_simp
            refine hK _ _ ?_
            clear hK K
            have hal0 : Below w5.heap.size w5 (w5.alloc (.cells #[.int .i64 k, .int .i64 (P.1 : Int), .int .i64 (P.2 : Int), .int .i64 n, .string t] 44)) := (Below.refl _ _).alloc (Nat.le_refl _) _
            have c5b : (w5.alloc (.cells #[.int .i64 k, .int .i64 (P.1 : Int), .int .i64 (P.2 : Int), .int .i64 n, .string t] 44)).cell? ⟨w.heap.size, 0, none⟩ = some (.slice va L.length vc) := (World.cell?_of_block (a := ⟨w.heap.size, 0, none⟩) (hal0.block w.heap.size (show w.heap.size < w5.heap.size from Nat.lt_of_lt_of_le (Nat.lt_add_of_pos_right (by decide)) HS5.out.size))).trans c5
            clear hal0
            refine wpAny_ready (rs := [0]) (by kernel_rfl) (by simp) ?_
            refine AllReady.cons rfl (fun K hK => ?_) AllReady.nil
            go_simp
            refine hK _ _ ?_
            clear hK K
            clear c5b
            refine wpAny_ready (rs := [3]) (by kernel_rfl) (by simp) ?_
            refine AllReady.cons rfl (fun K hK => ?_) AllReady.nil
            have hal : Below w5.heap.size w5 (w5.alloc (.cells #[.int .i64 k, .int .i64 (P.1 : Int), .int .i64 (P.2 : Int), .int .i64 n, .string t] 44)) := (Below.refl _ _).alloc (Nat.le_refl _) _
            have hz5 := HS5.out.size
            obtain ⟨nv, W9, hr, hown, hb9⟩ := run_snoc_tok (w5.alloc (.cells #[.int .i64 k, .int .i64 (P.1 : Int), .int .i64 (P.2 : Int), .int .i64 n, .string t] 44)) 23 (w.heap.size + 4) w5.heap.size (.slice va L.length vc) L ⟨k, P, n, t⟩ (own_only HS5.out.r (Only.of_below (F := fun _ => False) hal) (fun _ _ h => h)) (fun j u hu => cell_at0 w5 _ _ j u (by
              show (tokCells ⟨k, P, n, t⟩).toArray[j]? = some u
              rw [List.getElem?_toArray]
              exact hu)) (by omega) (by have := hal.size; omega)
            refine any_append rfl (.tmp 18) (.tmp 20) 23 rfl rfl rfl hr ?_
            refine hK _ _ ?_
            clear hK K hr
            have hb59 : Below (w.heap.size + 4) w5 W9 := (hal.mono hz5).trans hb9
            obtain ⟨va9, vc9, rfl⟩ := own_slice hown
            have HS10 := Lib.hid (HS5.out.snoc hb59 hown)
            have ea9 := (hb59.block w.heap.size (by omega)).trans HS5.out.a
            have c9 := cell_of_row W9 w.heap.size 0 _ _ (0, 0) ea9
            have z9 := frozen_of_row W9 w.heap.size 0 _ _ ea9
            clear hal hz5 hb9 hb59 hown ea9 c5 z5 ca
            generalize (L ++ [(⟨k, P, n, t⟩ : Tok)]) = L9 at *
            refine wpAny_ready (rs := [4]) (by kernel_rfl) (by simp) ?_
            refine AllReady.cons rfl (fun K hK => ?_) AllReady.nil
            go_simp
            refine hK _ _ ?_
            clear hK K
            refine wpAny_done (by kernel_rfl) ?_ _
            have HBl := Lib.hid (blanks_any _ (w.heap.size + 1 + 1 + 1) s (i + len) HS10.out.t hle (by omega))
            have HS11 := HS10
            clear c9 z9 HS10
            generalize (W9.setCell ⟨w.heap.size, 0, none⟩ (.slice va9 L9.length vc9)) = WA at *
            go_wp2_with fail
            refine HBl.out.mono ?_
            clear HBl
            rintro e w12 ⟨rfl, ht12, ho12⟩
            have HS12 := Lib.hid (HS11.out.only ho12 ht12)
            clear ht12 ho12
            go_wp2_with fail
            go_roundw
            case rel =>
              refine ⟨i + len + blankLen false ((bytesOf s).drop (i + len)), f - 1, _, L9, ?_, ?_, ?_, Lib.hid ?_, Lib.hid ?_, HS12⟩
              · have := blank_le false ((bytesOf s).drop (i + len))
                rw [List.length_drop, hbl] at this
                omega
              · omega
              · rw [HL9.out]; omega
              · rw [← List.drop_drop]
                exact blank_fix false _
              · rw [← scanF_skip]
                exact HGood.out (f - 1) (by omega)
            case measure =>
              rw [idxOf_at HS12.out.t, idxOf_at HS.out.t]
              omega
    · rw [decide_eq_false hlt] at HMo
      go_wp2_with fail
      refine HMo.out.mono ?_
      clear HMo
      rintro e w2 ⟨rfl, hb2⟩
      have HS2 := Lib.hid (HS.out.step hb2)
      have ca := cell_of_row w2 w.heap.size 0 _ _ (0, 0) HS2.out.a
      have za := frozen_of_row w2 w.heap.size 0 _ _ HS2.out.a
      have cb0 := cell_of_row w2 (w.heap.size + 1) 0 _ _ (0, 0) HS2.out.b
      have cb1 := cell_of_row w2 (w.heap.size + 1) 1 _ _ (0, 0) HS2.out.b
      have zb0 := frozen_of_row w2 (w.heap.size + 1) 0 _ _ HS2.out.b
      have zb1 := frozen_of_row w2 (w.heap.size + 1) 1 _ _ HS2.out.b
      have cc := cell_of_row w2 (w.heap.size + 1 + 1) 0 _ _ (0, 0) HS2.out.c
      have zc := frozen_of_row w2 (w.heap.size + 1 + 1) 0 _ _ HS2.out.c
      clear hb2
      go_wp2_with fail
      obtain ⟨e0, e1, e2, e3, hbd⟩ := HS2.out.x.caught (.slice va L.length vc) 0 0 0 (Below.refl _ _)
      have hown := ownsRow_setCell_below (ownsRow_setCell_below (ownsRow_setCell_below (ownsRow_setCell_below HS2.out.r (a := ⟨w.heap.size, 0, none⟩) (show w.heap.size < w.heap.size + 4 by omega) (.slice va L.length vc)) (a := ⟨w.heap.size + 1, 0, none⟩) (show w.heap.size + 1 < w.heap.size + 4 by omega) (.int .i64 0)) (a := ⟨w.heap.size + 1, 1, none⟩) (show w.heap.size + 1 < w.heap.size + 4 by omega) (.int .i64 0)) (a := ⟨w.heap.size + 1 + 1, 0, none⟩) (show w.heap.size + 1 + 1 < w.heap.size + 4 by omega) (.int .i64 0)
      have HOwn := Lib.hid hown
      have HBd := Lib.hid hbd
      clear hown hbd ca za cb0 cb1 zb0 zb1 cc zc
      generalize ((((w2.setCell ⟨w.heap.size, 0, none⟩ (.slice va L.length vc)).setCell ⟨w.heap.size + 1, 0, none⟩ (.int .i64 0)).setCell ⟨w.heap.size + 1, 1, none⟩ (.int .i64 0)).setCell ⟨w.heap.size + 1 + 1, 0, none⟩ (.int .i64 0)) = WD at *
      refine leaves_cons (f := 17) (args := #[.pointer (some ⟨w.heap.size, 0, none⟩), .pointer (some ⟨w.heap.size + 1, 0, none⟩), .pointer (some ⟨w.heap.size + 1 + 1, 0, none⟩)]) (by simp) (by simp [go_sem]) ?_
      refine (catch_idle ⟨w.heap.size, 0, none⟩ ⟨w.heap.size + 1, 0, none⟩ ⟨w.heap.size + 1 + 1, 0, none⟩ _).mono ?_
      rintro e u' w'' ⟨rfl, rfl, rfl⟩
      have hfin : ScanP w s (.returned (.tuple #[.slice va L.length vc, .agg #[.int .i64 0, .int .i64 0], .int .i64 0])) w'' := by
        unfold ScanP
        refine ⟨?_, HBd.out⟩
        have hsc := HSc.out
        obtain ⟨f2, rfl⟩ : ∃ f2, f = f2 + 1 := ⟨f - 1, by omega⟩
        rw [scanF_end s f2 i (by have := HBz.out; omega)] at hsc
        have hsc2 : scanS s = .ok L := by rw [hsc]; show ScR.ok (L ++ []) = _; rw [List.append_nil]
        rw [hsc2]
        exact ⟨_, rfl, HOwn.out⟩
      simp [Leaves, settle, results, Try.results10, go_sem, e0, e1, e2, e3]
      exact hfin
end Go.Proofs.Ytghddknhoiaboaa
