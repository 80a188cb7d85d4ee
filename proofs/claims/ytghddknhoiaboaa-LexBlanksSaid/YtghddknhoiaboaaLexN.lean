/-
  lex: Scan.
-/
import Derived.Test.YtghddknhoiaboaaLexL
import Derived.Test.YtghddknhoiaboaaLexM
namespace Go.Proofs.Ytghddknhoiaboaa
open Go.ChangeShapes Go.WideShapes Go.ChangeAt Go.RowKit
set_option linter.unusedVariables false
set_option maxRecDepth 100000

structure Tok where
  kind : Int
  at_ : Nat × Nat
  num : Int
  text : ByteArray
def tokCells (t : Tok) : List Value := [.int .i64 t.kind, .int .i64 (t.at_.1 : Int), .int .i64 (t.at_.2 : Int), .int .i64 t.num, .string t.text]
def toks (l : List Tok) : List Value := l.flatMap tokCells
inductive ScR where
  | ok (l : List Tok)
  | bad (p : Nat × Nat)
def ScR.cons (t : Tok) : ScR → ScR
  | .ok l => .ok (t :: l)
  | .bad p => .bad p
/-- all tokens from byte i on -/
def scanF (s : ByteArray) : Nat → Nat → ScR
  | 0, _ => .ok []
  | f + 1, i =>
    let j := i + blankLen false ((bytesOf s).drop i)
    if s.size ≤ j then .ok [] else match tokS s j with
      | .bad k => .bad (posAt (bytesOf s) k)
      | .tok k n t len => (scanF s f (j + len)).cons ⟨k, posAt (bytesOf s) j, n, t⟩
def scanS (s : ByteArray) : ScR := scanF s (s.size + 1) 0
theorem infoTok : (Try.prog.info? 44).map (fun i => (i.zero, i.size, i.bytes)) = some (some (tokV 0 (0, 0) 0 ⟨#[]⟩), 5, 48) := by kernel_rfl
theorem tokCells_length (t : Tok) : (tokCells t).length = 5 := rfl
theorem toks_append (l m : List Tok) : toks (l ++ m) = toks l ++ toks m := List.flatMap_append
theorem toks_one (t : Tok) : toks [t] = tokCells t := by
  unfold toks
  rw [List.flatMap_cons, List.flatMap_nil, List.append_nil]
/-- append(l, t) -/
theorem run_snoc_tok (W : World) (ty : TypeId) (base g : Nat) (v : Value) (L : List Tok) (t : Tok) (h0 : W.ownsRow base 44 5 v L.length (toks L)) (hg : ∀ j u, (tokCells t)[j]? = some u → W.cell? ⟨g, j, none⟩ = some u) (hl : L.length ≤ 100000) (hbase : base ≤ W.heap.size) :
    ∃ v' W', (Builtin.append_ #[23, 23] ty #[v, .slice (some ⟨g, 0, none⟩) 1 1]).run Try.prog W = .ok v' W' ∧ W'.ownsRow base 44 5 v' (L ++ [t]).length (toks (L ++ [t])) ∧ Below base W W' := by
  obtain ⟨i0, hi, hz0, hz1, hz2⟩ := info_parts infoTok
  obtain ⟨v', W', hr, ho, hgr, hnil⟩ := run_append_own (P := Try.prog) W base 23 ty 44 i0 _ 5 48 Try.underlying23 hi hz0 hz1 hz2 rfl (by decide) v L.length (toks L) h0 ⟨g, 0, none⟩ 1 1 (tokCells t) rfl (fun j u hu => by
    have h := hg j u hu
    have e : (⟨g, 0, none⟩ : Addr).add j = ⟨g, j, none⟩ := by simp [Addr.add]; omega
    rw [e]
    exact h) (fun u hu => by
      simp only [tokCells, List.mem_cons, List.not_mem_nil, or_false] at hu
      rcases hu with rfl | rfl | rfl | rfl | rfl <;> rfl) (by unfold maxLen; omega) (by omega) hbase
  refine ⟨v', W', hr, ?_, (Below.refl _ W).grown hgr hbase (fun k hk => own_baseN h0 hk)⟩
  rw [List.length_append, toks_append, toks_one]
  exact ho
theorem toks_none (W : World) (base : Nat) : W.ownsRow base 44 5 (.slice none 0 0) 0 (toks []) := ⟨rfl, .inl ⟨rfl, rfl⟩⟩
def ScR.pre (l : List Tok) : ScR → ScR
  | .ok m => .ok (l ++ m)
  | .bad p => .bad p
theorem pre_cons (l : List Tok) (t : Tok) (r : ScR) : ScR.pre l (r.cons t) = ScR.pre (l ++ [t]) r := by
  cases r <;> simp [ScR.pre, ScR.cons]
theorem pre_nil (r : ScR) : ScR.pre [] r = r := by cases r <;> rfl
theorem scanF_end (s : ByteArray) (f i : Nat) (h : s.size ≤ i + blankLen false ((bytesOf s).drop i)) : scanF s (f + 1) i = .ok [] := by
  show (if s.size ≤ i + blankLen false ((bytesOf s).drop i) then ScR.ok [] else _) = _
  exact if_pos h
theorem scanF_step (s : ByteArray) (f i : Nat) (h : ¬ s.size ≤ i + blankLen false ((bytesOf s).drop i)) : scanF s (f + 1) i = match tokS s (i + blankLen false ((bytesOf s).drop i)) with
    | .bad k => .bad (posAt (bytesOf s) k)
    | .tok k n t len => (scanF s f (i + blankLen false ((bytesOf s).drop i) + len)).cons ⟨k, posAt (bytesOf s) (i + blankLen false ((bytesOf s).drop i)), n, t⟩ := by
  show (if s.size ≤ i + blankLen false ((bytesOf s).drop i) then ScR.ok [] else _) = _
  exact if_neg h
end Go.Proofs.Ytghddknhoiaboaa
