/-
  A region that draws, whose last operations (which wait for all ahead of them, one behind the other) may change the world as they like.
-/
import Derived.Test.YtghddknhoiaboaaRegI
namespace Go.Proofs.Ytghddknhoiaboaa
open Go.ChangeShapes Go.WideShapes Go.ChangeAt Go.RowKit
set_option linter.unusedVariables false

section
variable {P : Program} {ops : Array Oper} {w : World} {E : Act → World → Prop}

def TailL (P : Program) (ops : Array Oper) (E : Act → World → Prop) : List Oper → Act → World → Prop
  | [], A, W => E A W
  | o :: r, A, W => if Region.wanted o (yielded ops A.tmps) = true then invUpon P (fun v W' => TailL P ops E r (A.put o.dst v) W') ((execOp A.eval o).run P W) else TailL P ops E r (A.put o.dst undef) W
def TailOK (P : Program) (ops : Array Oper) (w : World) (E : Act → World → Prop) (t : List Oper) (acc : List Fact) (A : Act) : Prop :=
  ∀ W, Gl w W → (∀ p ∈ acc, p.2.2 p.2.1 W) → TailL P ops E t A W
def wpInvT (P : Program) (ops : Array Oper) (w : World) (E : Act → World → Prop) : List Oper → List Kd → Nat → List Fact → Act → Prop
  | [], _, _, _, _ => False
  | o :: rest, [], _, acc, A => TailOK P ops w E (o :: rest) acc A
  | o :: rest, .is c :: kds, i, acc, A => StepOK P ops w o acc (fun v _ => v = c) A ∧ wpInvT P ops w E rest kds (i + 1) acc (A.put o.dst c)
  | o :: rest, .has g :: kds, i, acc, A => Stable g ∧ StepOK P ops w o acc g A ∧ ∀ v, wpInvT P ops w E rest kds (i + 1) ((i, v, g) :: acc) (A.put o.dst v)
theorem wpInvT_is {o : Oper} {rest : List Oper} {c : Value} {kds : List Kd} {i : Nat} {acc : List Fact} {A : Act} (h : StepOK P ops w o acc (fun v _ => v = c) A) (k : wpInvT P ops w E rest kds (i + 1) acc (A.put o.dst c)) : wpInvT P ops w E (o :: rest) (.is c :: kds) i acc A := ⟨h, k⟩
theorem wpInvT_has {o : Oper} {rest : List Oper} {kds : List Kd} {i : Nat} {acc : List Fact} {A : Act} (g : Value → World → Prop) (s : Stable g) (h : StepOK P ops w o acc g A) (k : ∀ v, wpInvT P ops w E rest kds (i + 1) ((i, v, g) :: acc) (A.put o.dst v)) : wpInvT P ops w E (o :: rest) (.has g :: kds) i acc A := ⟨s, h, k⟩
theorem wpInvT_tail {o : Oper} {rest : List Oper} {i : Nat} {acc : List Fact} {A : Act} (h : TailOK P ops w E (o :: rest) acc A) : wpInvT P ops w E (o :: rest) [] i acc A := h

theorem lex_stepT {a : Act} {kds : List Kd} {vs : Nat → Value} (hc : Cons kds vs) (hlen : kds.length < ops.size) : ∀ (rest : List Oper) (i : Nat), i ≤ kds.length → ops.toList.drop i = rest → wpInvT P ops w E rest (kds.drop i) i (accOf kds vs i) (putTo ops a vs i) →
    (∀ j o, i ≤ j → j < kds.length → ops[j]? = some o → (∀ v W W', Gl W W' → kdOf kds j v W → kdOf kds j v W') ∧ StepOK P ops w o (accOf kds vs j) (kdOf kds j) (putTo ops a vs j)) ∧
    (TailOK P ops w E (ops.toList.drop kds.length) (accOf kds vs kds.length) (putTo ops a vs kds.length)) := by
  intro rest
  induction rest with
  | nil =>
    intro i _ hd h
    exact h.elim
  | cons o rest ih =>
    intro i hik hd h
    have hi : i < ops.size := by omega
    have hil : i < ops.toList.length := by simpa using hi
    have hd0 := hd
    rw [List.drop_eq_getElem_cons hil] at hd
    injection hd with ho hd
    have hoo : ops[i]? = some o := by rw [← ho]; simp [hi]
    have hdst : dstOf ops i = o.dst := by unfold dstOf; rw [hoo]; rfl
    cases hk : kds.drop i with
    | nil =>
      have hle : kds.length ≤ i := by
        have := congrArg List.length hk
        simp at this
        omega
      obtain rfl : i = kds.length := by omega
      rw [hk] at h
      refine ⟨fun j o' hj hj2 ho' => by omega, ?_⟩
      rw [hd0]
      exact h
    | cons k kds' =>
      have hki : kds[i]? = some k := by
        have : (kds.drop i)[0]? = some k := by rw [hk]; rfl
        simpa using this
      have hkl : i < kds.length := (List.getElem?_eq_some_iff.1 hki).1
      have hkd : kds.drop (i + 1) = kds' := by
        have : (kds.drop i).drop 1 = kds' := by rw [hk]; rfl
        rw [List.drop_drop] at this
        exact this
      rw [hk] at h
      cases k with
      | is c =>
        have hvc := hc i c hki
        obtain ⟨h1, h2⟩ := h
        have hacc : accOf kds vs (i + 1) = accOf kds vs i := by show (match kds[i]? with | some (.has g) => _ | _ => _) = _; rw [hki]
        have h3 := ih (i + 1) (by omega) hd (by rw [hkd, hacc]; show wpInvT P ops w E rest kds' (i + 1) _ ((putTo ops a vs i).put (dstOf ops i) (vs i)); rw [hdst, hvc]; exact h2)
        refine ⟨fun j o' hj hj2 ho' => ?_, h3.2⟩
        rcases Nat.lt_or_ge i j with g | g
        · exact h3.1 j o' g hj2 ho'
        · obtain rfl : i = j := by omega
          obtain rfl : o = o' := by rw [hoo] at ho'; exact Option.some.inj ho'
          refine ⟨fun v W W' _ hv => ?_, fun W hW hf K hK => h1 W hW hf K (fun v W' hg hv => hK v W' hg ⟨_, hki, hv⟩)⟩
          obtain ⟨k, e, hv⟩ := hv
          rw [hki] at e
          obtain rfl := Option.some.inj e
          exact ⟨_, hki, hv⟩
      | has g =>
        obtain ⟨hs, h1, h2⟩ := h
        have hacc : accOf kds vs (i + 1) = (i, vs i, g) :: accOf kds vs i := by show (match kds[i]? with | some (.has g) => _ | _ => _) = _; rw [hki]
        have h3 := ih (i + 1) (by omega) hd (by rw [hkd, hacc]; show wpInvT P ops w E rest kds' (i + 1) _ ((putTo ops a vs i).put (dstOf ops i) (vs i)); rw [hdst]; exact h2 (vs i))
        refine ⟨fun j o' hj hj2 ho' => ?_, h3.2⟩
        rcases Nat.lt_or_ge i j with g' | g'
        · exact h3.1 j o' g' hj2 ho'
        · obtain rfl : i = j := by omega
          obtain rfl : o = o' := by rw [hoo] at ho'; exact Option.some.inj ho'
          refine ⟨fun v W W' hW hv => ?_, fun W hW hf K hK => h1 W hW hf K (fun v W' hg hv => hK v W' hg ⟨_, hki, hv⟩)⟩
          obtain ⟨k, e, hv⟩ := hv
          rw [hki] at e
          obtain rfl := Option.some.inj e
          exact ⟨_, hki, hs v W W' hW hv⟩

/-- what an operation waits for, all the way back (a bit for each) -/
def markDeps (l : List Edge) (m : Nat) : Nat := l.foldl (fun m e => if Region.binds .any e then m ||| 2 ^ e.on else m) m
def ancGo : List Oper → Nat → Nat → Nat
  | [], _, m => m
  | o :: r, i, m => ancGo r (i - 1) (if m.testBit i then markDeps o.after.toList m else m)
def anc (l : List Oper) (t : Nat) : Nat := ancGo (l.take (t + 1)).reverse t (2 ^ t)
theorem markDeps_spec (l : List Edge) (m j : Nat) (h : (markDeps l m).testBit j = true) : m.testBit j = true ∨ ∃ e ∈ l, Region.binds .any e = true ∧ e.on = j := by
  induction l generalizing m with
  | nil => exact .inl h
  | cons e l ih =>
    rcases ih _ h with h | ⟨e', h1, h2⟩
    · dsimp only at h
      by_cases hb : Region.binds .any e = true
      · rw [if_pos hb, Nat.testBit_or, Bool.or_eq_true] at h
        rcases h with h | h
        · exact .inl h
        · rw [Nat.testBit_two_pow] at h
          exact .inr ⟨e, List.mem_cons_self .., hb, of_decide_eq_true h⟩
      · rw [if_neg hb] at h
        exact .inl h
    · exact .inr ⟨e', List.mem_cons_of_mem _ h1, h2⟩
theorem ancGo_spec {Ok : Nat → Prop} (hc : ∀ i o, ops[i]? = some o → Ok i → ∀ e ∈ o.after, Region.binds .any e = true → Ok e.on) : ∀ (i m : Nat), i < ops.size → (∀ j, m.testBit j = true → Ok j) → ∀ j, (ancGo (ops.toList.take (i + 1)).reverse i m).testBit j = true → Ok j := by
  intro i
  induction i with
  | zero =>
    intro m hi hm j h
    obtain ⟨o, ho⟩ : ∃ o, ops[0]? = some o := ⟨ops[0], by simp [hi]⟩
    have e : (ops.toList.take (0 + 1)).reverse = [o] := by
      rw [List.take_succ_eq_append_getElem (by simpa using hi), List.reverse_append]
      have : ops.toList[0]'(by simpa using hi) = o := by simpa using (Array.getElem?_eq_some_iff.1 ho).2
      rw [this]
      rfl
    rw [e] at h
    have h : ((if m.testBit 0 then markDeps o.after.toList m else m)).testBit j = true := h
    split at h
    · rename_i hb
      rcases markDeps_spec _ _ _ h with h | ⟨e', h1, h2, rfl⟩
      · exact hm j h
      · exact hc 0 o ho (hm 0 hb) e' (by simpa using h1) h2
    · exact hm j h
  | succ i ih =>
    intro m hi hm j h
    obtain ⟨o, ho⟩ : ∃ o, ops[i + 1]? = some o := ⟨ops[i + 1], by simp [hi]⟩
    have e : (ops.toList.take (i + 1 + 1)).reverse = o :: (ops.toList.take (i + 1)).reverse := by
      rw [List.take_succ_eq_append_getElem (by simpa using hi), List.reverse_append]
      have : ops.toList[i + 1]'(by simpa using hi) = o := by simpa using (Array.getElem?_eq_some_iff.1 ho).2
      rw [this]
      rfl
    rw [e] at h
    have h : (ancGo (ops.toList.take (i + 1)).reverse (i + 1 - 1) (if m.testBit (i + 1) then markDeps o.after.toList m else m)).testBit j = true := h
    rw [Nat.add_sub_cancel] at h
    refine ih _ (by omega) (fun j hj => ?_) j h
    split at hj
    · rename_i hb
      rcases markDeps_spec _ _ _ hj with h | ⟨e', h1, h2, rfl⟩
      · exact hm j h
      · exact hc (i + 1) o ho (hm _ hb) e' (by simpa using h1) h2
    · exact hm j hj
/-- from m on each waits for all ahead of it -/
def tailAll (ops : Array Oper) (m : Nat) : Bool := (List.range ops.size).all fun t => decide (t < m) || (anc ops.toList t &&& (2 ^ t - 1)) == 2 ^ t - 1
def Needs (ops : Array Oper) (t j : Nat) : Prop := ∀ p : Nat → Bool, Closed ops p → (∀ o, ops[t]? = some o → ∀ e ∈ o.after, Region.binds .any e = true → p e.on = true) → p j = true
theorem tailAll_spec {m : Nat} (h : tailAll ops m = true) : ∀ t j, m ≤ t → t < ops.size → j < t → Needs ops t j := by
  intro t j h1 h2 h3 p hp ht
  unfold tailAll at h
  rw [List.all_eq_true] at h
  have := h t (List.mem_range.2 h2)
  rw [Bool.or_eq_true, decide_eq_true_eq, beq_iff_eq] at this
  rcases this with g | g
  · omega
  · have hb : (anc ops.toList t).testBit j = true := by
      have e := congrArg (fun x => x.testBit j) g
      simp only [Nat.testBit_and, Nat.testBit_two_pow_sub_one, decide_eq_true h3, Bool.and_true] at e
      exact e
    have hOk := ancGo_spec (ops := ops) (Ok := fun i => i = t ∨ p i = true) (fun i o ho hi e he hbd => by
      rcases hi with hi | hi
      · subst hi
        exact .inr (ht o ho e he hbd)
      · exact .inr (hp i o ho hi e he hbd)) t (2 ^ t) h2 (fun j hj => by
        rw [Nat.testBit_two_pow] at hj
        exact .inl (of_decide_eq_true hj).symm) j hb
    rcases hOk with e | e
    · omega
    · exact e
theorem before_ready {listed : Array Bool} (hc : Closed ops (fun j => listed.getD j false)) {t j : Nat} {o : Oper} (ho : ops[t]? = some o) (hall : ∀ e ∈ o.after, Region.binds .any e = true → listed.getD e.on false = true) (hb : Needs ops t j) : listed.getD j false = true :=
  hb (fun j => listed.getD j false) hc (fun o' ho' e he hbd => by
    rw [ho] at ho'
    obtain rfl := Option.some.inj ho'
    exact hall e he hbd)
theorem any_of_tail (hr : RegOK ops) {m : Nat} (hla : tailAll ops m = true) (Q : Exit → Act → World → Prop) (hQ : ∀ a w, E a w → Q .normal a w) :
    ∀ (fuel i : Nat) (listed : Array Bool) (A : Act) (W : World), m ≤ i → i ≤ ops.size → listed.size = ops.size → (∀ j, j < ops.size → listed.getD j false = decide (j < i)) → ops.size - i ≤ fuel → TailL P ops E (ops.toList.drop i) A W → wpAny P .any ops Q fuel listed A W := by
  have hfull : ∀ (listed : Array Bool), listed.size = ops.size → (∀ j, j < ops.size → listed.getD j false = true) → Region.ready .any ops listed = [] := fun listed hs hl => by
    cases hR : Region.ready .any ops listed with
    | nil => rfl
    | cons x xs =>
      have hm : x ∈ Region.ready .any ops listed := by rw [hR]; exact List.mem_cons_self ..
      obtain ⟨h1, o', ho', _⟩ := mem_ready.1 hm
      have hx := (Array.getElem?_eq_some_iff.1 ho').1
      rw [getD_two (by rw [hs]; exact hx), hl x hx] at h1
      cases h1
  intro fuel
  induction fuel with
  | zero =>
    intro i listed A W hm hi hs hl hf h
    obtain rfl : i = ops.size := by omega
    rw [List.drop_eq_nil_of_le (by simp)] at h
    exact ⟨hfull listed hs (fun j hj => by rw [hl j hj]; simp [hj]), hQ _ _ h⟩
  | succ fuel ih =>
    intro i listed A W hm hi hs hl hf h
    by_cases hie : i = ops.size
    · subst hie
      rw [List.drop_eq_nil_of_le (by simp)] at h
      have hrd := hfull listed hs (fun j hj => by rw [hl j hj]; simp [hj])
      refine ⟨fun _ => hQ _ _ h, fun x hx => ?_⟩
      rw [hrd] at hx
      cases hx
    · have hil : i < ops.size := by omega
      have hclosed : Closed ops (fun j => listed.getD j false) := fun j o ho hj e he hb => by
        have hj' := (Array.getElem?_eq_some_iff.1 ho).1
        have h1 := hr.edge j o ho e he hb
        have hj : listed.getD j false = true := hj
        show listed.getD e.on false = true
        rw [hl j hj'] at hj
        rw [hl e.on (by omega)]
        have := of_decide_eq_true hj
        exact decide_eq_true (by omega)
      obtain ⟨o, ho⟩ : ∃ o, ops[i]? = some o := ⟨ops[i], by simp [hil]⟩
      rw [List.drop_eq_getElem_cons (by simpa using hil)] at h
      have hoo : ops.toList[i]'(by simpa using hil) = o := by
        have := (Array.getElem?_eq_some_iff.1 ho).2
        simpa using this
      rw [hoo] at h
      have hi_in : i ∈ Region.ready .any ops listed := mem_ready.2 ⟨by rw [getD_two (by rw [hs]; exact hil), hl i hil]; simp, o, ho, fun e he hb => by
        have h1 := hr.edge i o ho e he hb
        rw [hl e.on (by omega)]
        exact decide_eq_true h1⟩
      refine ⟨fun hnil => ?_, fun x hx => ?_⟩
      · rw [hnil] at hi_in
        cases hi_in
      · obtain ⟨hun, o', ho', hall⟩ := mem_ready.1 hx
        have hx' := (Array.getElem?_eq_some_iff.1 ho').1
        rw [getD_two (by rw [hs]; exact hx'), hl x hx'] at hun
        have hge := of_decide_eq_false hun
        obtain rfl : x = i := by
          rcases Nat.lt_or_ge i x with g | g
          · have hb := before_ready hclosed ho' hall (tailAll_spec hla x i (by omega) hx' g)
            rw [hl i hil] at hb
            exact absurd (of_decide_eq_true hb) (Nat.lt_irrefl _)
          · omega
        have hdone : ∀ A W', TailL P ops E (ops.toList.drop (x + 1)) A W' → wpAny P .any ops Q fuel (listed.setIfInBounds x true) A W' := fun A W' hT => by
          refine ih (x + 1) _ A W' (by omega) (by omega) (by rw [Array.size_setIfInBounds]; exact hs) (fun j hj => ?_) (by omega) hT
          by_cases hji : j = x
          · subst hji
            have : j < listed.size := by omega
            simp [this]
          · rw [getD_set_ne false (Ne.symm hji), hl j hj]
            by_cases h1 : j < x
            · rw [decide_eq_true h1, decide_eq_true (by omega)]
            · rw [decide_eq_false h1, decide_eq_false (by omega)]
        unfold wpOp
        simp only [ho]
        simp only [TailL] at h
        split
        · rename_i hw
          rw [if_pos hw] at h
          refine .inl ?_
          unfold Oper.wp
          generalize (execOp A.eval o).run P W = r at *
          cases r with
          | ok n W' =>
            cases n <;> simp only [Oper.upon, invUpon] at h ⊢
            case value u => exact hdone _ _ h
            case skip => exact hdone _ _ h
            case enter f args =>
              refine Calls.mono h fun e w2 he => ?_
              obtain ⟨v, rfl, hv⟩ := he
              exact hdone _ _ hv
          | halt x W' => simp only [invUpon] at h
        · rename_i hw
          rw [if_neg hw] at h
          exact hdone _ _ h

theorem cnt_late {listed : Array Bool} {m : Nat} (hl : ∀ j, m ≤ j → j < ops.size → listed.getD j false = false) (hs : listed.size = ops.size) : ops.size - m ≤ cnt listed ops.size := by
  have h : ∀ k, k ≤ ops.size → k - m ≤ cnt listed k := by
    intro k
    induction k with
    | zero => intro _; omega
    | succ k ih =>
      intro hk
      have := ih (by omega)
      unfold cnt
      rcases Nat.lt_or_ge k m with g | g
      · omega
      · rw [getD_two (by omega), hl k g (by omega), if_neg (by decide)]
        omega
  exact h ops.size (Nat.le_refl _)
theorem any_of_lexT (hr : RegOK ops) {a : Act} {kds : List Kd} (hla : tailAll ops kds.length = true) (hlen : kds.length < ops.size)
    (hst : ∀ j o, j < kds.length → ops[j]? = some o → ∀ v W W', Gl W W' → kdOf kds j v W → kdOf kds j v W')
    (hstep : ∀ vs, Cons kds vs → ∀ j o, j < kds.length → ops[j]? = some o → StepOK P ops w o (accOf kds vs j) (kdOf kds j) (putTo ops a vs j))
    (hlast : ∀ vs, Cons kds vs → TailOK P ops w E (ops.toList.drop kds.length) (accOf kds vs kds.length) (putTo ops a vs kds.length)) (Q : Exit → Act → World → Prop) (hQ : ∀ a w, E a w → Q .normal a w) :
    ∀ (fuel : Nat) (listed : Array Bool) (vs : Nat → Value) (a' : Act) (W : World), cnt listed ops.size ≤ fuel → listed.getD kds.length false = false → Stand ops a w kds listed vs a' W → wpAny P .any ops Q fuel listed a' W := by
  have hbef : ∀ j, j < kds.length → Needs ops kds.length j := fun j hj => tailAll_spec hla kds.length j (Nat.le_refl _) hlen hj
  intro fuel
  induction fuel with
  | zero =>
    intro listed vs a' W hc hnl hS
    have := cnt_zero ops.size (Nat.le_zero.1 hc) kds.length (by omega)
    rw [getD_two (by rw [hS.size]; omega), hnl] at this
    cases this
  | succ fuel ih =>
    intro listed vs a' W hc hnl hS
    refine ⟨fun hnil => ?_, fun i hi => ?_⟩
    · have hallj : ∀ j, j < ops.size → listed.getD j false = true := by
        intro j
        induction j using Nat.strongRecOn with
        | ind j ihj =>
          intro hj
          cases hl : listed.getD j false with
          | true => rfl
          | false =>
            obtain ⟨o, ho⟩ : ∃ o, ops[j]? = some o := ⟨ops[j], by simp [hj]⟩
            have hm : j ∈ Region.ready .any ops listed := mem_ready.2 ⟨by rw [getD_two (by rw [hS.size]; exact hj)]; exact hl, o, ho, fun e he hb => by
              have h := hr.edge j o ho e he hb
              exact ihj e.on h (by omega)⟩
            rw [hnil] at hm
            cases hm
      rw [hallj kds.length (by omega)] at hnl
      cases hnl
    · obtain ⟨hun, o, ho, hall⟩ := mem_ready.1 hi
      by_cases hiL : i = kds.length
      · subst hiL
        have hinl : kds.length < listed.size := by rw [hS.size]; omega
        have hallj : ∀ j, j < kds.length → listed.getD j false = true := fun j hj => before_ready hS.closed ho hall (hbef j hj)
        have hlate : ∀ j, kds.length ≤ j → j < ops.size → listed.getD j false = false := fun j h1 h2 => by
          rcases Nat.eq_or_lt_of_le h1 with g | g
          · rw [← g]; exact hnl
          · cases hl : listed.getD j false with
            | false => rfl
            | true =>
              obtain ⟨oj, hoj⟩ : ∃ oj, ops[j]? = some oj := ⟨ops[j], by simp [h2]⟩
              have := before_ready hS.closed hoj (fun e he hb => hS.closed j oj hoj hl e he hb) (tailAll_spec hla j kds.length h1 h2 g)
              rw [hnl] at this
              cases this
        have e : a' = putTo ops a vs kds.length := slots_ext (slots_congr hS.slots (fun j hj => by
          rcases Nat.lt_or_ge j kds.length with g | g
          · rw [hallj j g]; simp [g]
          · rw [hlate j g hj]; simp; exact g) (fun _ _ _ => rfl)) (slots_putTo hr a vs kds.length (by omega))
        have hs := hlast vs hS.cons W hS.grown (fun p hp => by
          obtain ⟨h1, h2, h3⟩ := accOf_mem hp
          obtain ⟨k, e2, hv⟩ := hS.val p.1 (by omega) (hallj p.1 h1)
          rw [h3] at e2
          obtain rfl := Option.some.inj e2
          rw [h2]
          exact hv)
        rw [← e] at hs
        have hml : kds.length < ops.toList.length := by simpa using hlen
        rw [List.drop_eq_getElem_cons hml] at hs
        have hoo : ops.toList[kds.length]'hml = o := by
          have := (Array.getElem?_eq_some_iff.1 ho).2
          simpa using this
        rw [hoo] at hs
        simp only [TailL] at hs
        have hcnt := cnt_late (listed := listed) (m := kds.length) (fun j h1 h2 => hlate j h1 h2) hS.size
        have hdone : ∀ A W', TailL P ops E (ops.toList.drop (kds.length + 1)) A W' → wpAny P .any ops Q fuel (listed.setIfInBounds kds.length true) A W' := fun A W' hT => by
          refine any_of_tail hr hla Q hQ fuel (kds.length + 1) _ A W' (by omega) (by omega) (by rw [Array.size_setIfInBounds]; exact hS.size) (fun j hj => ?_) (by omega) hT
          by_cases hji : j = kds.length
          · subst hji
            simp [hinl]
          · rw [getD_set_ne false (Ne.symm hji)]
            by_cases h1 : j < kds.length
            · rw [hallj j h1, decide_eq_true (by omega)]
            · rw [hlate j (by omega) hj, decide_eq_false (by omega)]
        unfold wpOp
        simp only [ho]
        split
        · rename_i hw
          rw [if_pos hw] at hs
          refine .inl ?_
          unfold Oper.wp
          generalize (execOp a'.eval o).run P W = r at *
          cases r with
          | ok n W' =>
            cases n <;> simp only [Oper.upon, invUpon] at hs ⊢
            case value u => exact hdone _ _ hs
            case skip => exact hdone _ _ hs
            case enter f args =>
              refine Calls.mono hs fun e w2 he => ?_
              obtain ⟨v, rfl, hv⟩ := he
              exact hdone _ _ hv
          | halt x W' => simp only [invUpon] at hs
        · rename_i hw
          rw [if_neg hw] at hs
          exact hdone _ _ hs
      · have hin' : i < ops.size := (Array.getElem?_eq_some_iff.1 ho).1
        have hiLt : i < kds.length := by
          rcases Nat.lt_or_ge i kds.length with g | g
          · exact g
          · have := before_ready hS.closed ho hall (tailAll_spec hla i kds.length g hin' (by omega))
            rw [hnl] at this
            cases this
        have hin := (Array.getElem?_eq_some_iff.1 ho).1
        have hinl : i < listed.size := by rw [hS.size]; exact hin
        have hun' : listed.getD i false = false := by rw [← getD_two hinl]; exact hun
        have hdep : ∀ j, depOn o j = true → listed.getD j false = true := fun j hj => by
          obtain ⟨e, he, hb⟩ := Array.any_eq_true'.1 hj
          simp only [Bool.and_eq_true, beq_iff_eq] at hb
          rw [← hb.2]
          exact hall e he hb.1
        have hlook := eval_slots hr hS.slots (slots_putTo hr a vs i (Nat.le_of_lt hin)) ho hun' (by simp) hdep (fun j => rfl) (fun _ _ => rfl) hS.closed
        obtain ⟨hex, hwa⟩ := exec_slots hr.sel ho hlook
        have hdst : dstOf ops i = o.dst := by unfold dstOf; rw [ho]; rfl
        have hK : ∀ v W', Gl W W' → kdOf kds i v W' → wpAny P .any ops Q fuel (listed.setIfInBounds i true) (a'.put o.dst v) W' := by
          intro v W' hg hv
          have hcnt := cnt_set hinl hun ops.size
          rw [if_pos hin] at hcnt
          have hset : ∀ j, j ≠ i → (listed.setIfInBounds i true).getD j false = listed.getD j false := fun j hj => getD_set_ne false (Ne.symm hj)
          have hseti : (listed.setIfInBounds i true).getD i false = true := by simp [hinl]
          have hmono : ∀ j, listed.getD j false = true → (listed.setIfInBounds i true).getD j false = true := fun j h => getD_set_true h
          refine ih _ (up vs i v) _ W' (by omega) (by rw [hset kds.length (fun e => hiL e.symm)]; exact hnl) ⟨by rw [Array.size_setIfInBounds]; exact hS.size, fun j c hj => ?_, hS.grown.trans hg, fun j hj hl => ?_, ?_, fun j o' ho' hl e he hb => ?_⟩
          · unfold up
            split
            · rename_i hji
              subst hji
              obtain ⟨k, e, hv'⟩ := hv
              rw [hj] at e
              obtain rfl := Option.some.inj e
              exact hv'
            · exact hS.cons j c hj
          · unfold up
            by_cases hji : j = i
            · subst hji
              rw [if_pos rfl]
              exact hv
            · rw [if_neg hji]
              rw [hset j hji] at hl
              obtain ⟨o', ho'⟩ : ∃ o', ops[j]? = some o' := ⟨ops[j], by simp [hj]⟩
              exact hst j o' (by
                rcases Nat.lt_or_ge j kds.length with g | g
                · exact g
                · rcases Nat.eq_or_lt_of_le g with g' | g'
                  · rw [← g', hnl] at hl; cases hl
                  · have := before_ready hS.closed ho' (fun e he hb => hS.closed j o' ho' hl e he hb) (tailAll_spec hla j kds.length g hj g')
                    rw [hnl] at this
                    cases this) ho' _ _ _ hg (hS.val j hj hl)
          · obtain ⟨s1, s2, s3⟩ := hS.slots
            refine ⟨(put_size _ _ _).1.trans s1, (put_size _ _ _).2.trans s2, fun t => ⟨fun j hj hd hl => ?_, fun hno => ?_⟩⟩
            · rw [put_at]
              by_cases hji : j = i
              · subst hji
                rw [← hdst, if_pos hd]
                unfold up
                rw [if_pos rfl]
                rcases Nat.lt_or_ge t a.tmps.size with g | g
                · have g' : t < a'.tmps.size := s1.symm ▸ g
                  simp [g, g']
                · have g' : a'.tmps.size ≤ t := s1.symm ▸ g
                  rw [Array.getElem?_eq_none g', Array.getElem?_eq_none g, Option.map_none]
              · rw [if_neg (fun e => hji (hr.dst j i t hj hin hd (hdst.trans e)))]
                have hl : (listed.setIfInBounds i true).getD j false = true := hl
                rw [hset j hji] at hl
                rw [(s3 t).1 j hj hd hl]
                unfold up
                rw [if_neg hji]
            · rw [put_at, if_neg (fun e => by have h9 : (listed.setIfInBounds i true).getD i false = false := hno i hin (hdst.trans e); rw [hseti] at h9; cases h9)]
              refine (s3 t).2 (fun j hj hd => ?_)
              have this : (listed.setIfInBounds i true).getD j false = false := hno j hj hd
              by_cases hji : j = i
              · subst hji; rw [hseti] at this; cases this
              · rw [hset j hji] at this; exact this
          · by_cases hji : j = i
            · subst hji
              rw [ho] at ho'
              obtain rfl := Option.some.inj ho'
              exact hmono _ (hall e he hb)
            · have hl' : listed.getD j false = true := by rw [← hset j hji]; exact hl
              exact hmono _ (hS.closed j o' ho' hl' e he hb)
        have hs := hstep vs hS.cons i o hiLt ho W hS.grown (fun p hp hd => by
          obtain ⟨h1, h2, h3⟩ := accOf_mem hp
          obtain ⟨k, e2, hv⟩ := hS.val p.1 (by omega) (hdep p.1 hd)
          rw [h3] at e2
          obtain rfl := Option.some.inj e2
          rw [h2]
          exact hv) (fun v W' => wpAny P .any ops Q fuel (listed.setIfInBounds i true) (a'.put o.dst v) W') hK
        unfold wpOp
        simp only [ho]
        rw [hwa]
        split
        · rename_i hw
          rw [if_pos hw] at hs
          refine .inl ?_
          unfold Oper.wp
          rw [hex]
          generalize (execOp (putTo ops a vs i).eval o).run P W = r at *
          cases r with
          | ok n W' =>
            cases n <;> simp only [Oper.upon, invUpon] at hs ⊢
            case value u => exact hs
            case skip => exact hs
            case enter f args =>
              refine Calls.mono hs fun e w2 he => ?_
              obtain ⟨v, rfl, hv⟩ := he
              exact hv
          | halt x W' => simp only [invUpon] at hs
        · rename_i hw
          rw [if_neg hw] at hs
          exact hs
theorem wpAny_region_tail_lit {a : Act} {Q : Exit → Act → World → Prop} {l : List Oper} (kds : List Kd) (hok : regOK l.toArray = true) (hla : tailAll l.toArray kds.length = true) (hlen : decide (kds.length < l.length) = true)
    (h : wpInvT P l.toArray w.drew (fun a w => Q .normal a w) l kds 0 [] a) : wpAny P .any l.toArray Q l.toArray.size (Array.replicate l.toArray.size false) a w.drew := by
  have hr := regOK_spec hok
  have hlen' : kds.length < l.toArray.size := by have := of_decide_eq_true hlen; simpa using this
  have hlex := fun (vs : Nat → Value) (hc : Cons kds vs) => lex_stepT (P := P) (w := w.drew) (E := fun a w => Q .normal a w) (a := a) hc hlen' l.toArray.toList 0 (Nat.zero_le _) rfl (by rw [show l.toArray.toList = l by simp]; exact h)
  obtain ⟨vs0, hc0⟩ : ∃ vs, Cons kds vs := ⟨fun i => match kds[i]? with | some (.is c) => c | _ => undef, fun i c hi => by simp only [hi]⟩
  have hn : ∀ j, (Array.replicate l.toArray.size false).getD j false = false := fun j => by
    rw [Array.getD_eq_getD_getElem?, Array.getElem?_replicate]
    split <;> rfl
  refine any_of_lexT (w := w.drew) (E := fun a w => Q .normal a w) hr hla hlen' (fun j o hj ho => ((hlex vs0 hc0).1 j o (Nat.zero_le _) hj ho).1) (fun vs hc j o hj ho => ((hlex vs hc).1 j o (Nat.zero_le _) hj ho).2) (fun vs hc => (hlex vs hc).2) Q (fun _ _ h => h) l.toArray.size _ vs0 a _ ?_ (hn _) ?_
  · have : ∀ (l : Array Bool) k, cnt l k ≤ k := by
      intro l k
      induction k with
      | zero => exact Nat.le_refl _
      | succ k ih => unfold cnt; split <;> omega
    exact this _ _
  · have hno : ∀ j, (Array.replicate l.toArray.size false).getD j false = true → False := fun j hl => by rw [hn j] at hl; cases hl
    exact ⟨by simp, hc0, Gl.refl _, fun j hj hl => (hno j hl).elim, ⟨rfl, rfl, fun t => ⟨fun j _ _ hl => (hno j hl).elim, fun _ => rfl⟩⟩, fun j o _ hl => (hno j hl).elim⟩
theorem wp_region_tail_lit {id : Nat} {a : Act} {Q : Exit → Act → World → Prop} {l : List Oper} (kds : List Kd) (hm : P.follows .mixedOrders = true) (hok : regOK l.toArray = true) (hla : tailAll l.toArray kds.length = true) (hlen : decide (kds.length < l.length) = true)
    (h : wpInvT P l.toArray w.drew (fun a w => Q .normal a w) l kds 0 [] a) : (Code.region id l.toArray true).wp P Q a w := wp_region_any hm (wpAny_region_tail_lit kds hok hla hlen h)
theorem wpIn_region_tail_lit {n lr : Nat} {id : Nat} {a : Act} {Q : Exit → Act → World → Prop} {l : List Oper} (kds : List Kd) (hm : P.follows .mixedOrders = true) (hok : regOK l.toArray = true) (hla : tailAll l.toArray kds.length = true) (hlen : decide (kds.length < l.length) = true) (hnd : noDefer l = true) (hQ : ¬ LetsOut Q)
    (h : wpInvT P l.toArray w.drew (fun a w => Q .normal a w) l kds 0 [] a) : (Code.region id l.toArray true).wpIn (Fence.wide.inRound lr) n P Q a w := wpIn_region_any hm (anyIn_of (noDefer_spec hnd) hQ _ _ _ _ (wpAny_region_tail_lit kds hok hla hlen h))
end
end Go.Proofs.Ytghddknhoiaboaa
