/-
 Maps from strings to ints, as tables.
-/
import Derived.Test.YtjgddagladmgoaaOrder
import Derived.Maps.Own
import Derived.Maps.OwnOps
import Derived.Maps.Views
import Derived.Maps.RangeWalk
namespace Go.Proofs.Ytjgddagladmgoaa
open Go.RowKit Go.Maps

/-- A composite literal's entry goes in as a store does. -/
theorem wpList_insert_own {H : Type} {P : Program} (w : World) {ops : Array Oper} {rest : List Oper} {o : Oper} {a : Act} {Q : Exit → Act → World → Prop}
    (hg : o.guard = none) (m x v : Operand) (t : TypeId) (hop : o.op = Op.insert t m x v)
    (k e : TypeId) (K : Keyed P k) (ht : P.underlying t = some (.map k e)) (R : Value → Option (DataW H × List MemPlace)) (b n : Nat) (D : DataW H)
    (hm : a.eval m = .map (some b)) (hown : w.ownsMap P k R b n D) (hn : n < maxLen) (key val : Value) (kl : Lit) (hx : a.eval x = key) (hv : a.eval v = val) (hkey : keyOf P k key = some kl)
    (d : DataW H) (ps : List MemPlace) (hval : R val = some (d, ps))
    (hK : ∀ w', w'.ownsMap P k R b (n + 1) (D.put kl d) → w.grownBy w' (some b) → wpList P ops Q rest (a.put o.dst undef) w') :
    wpList P ops Q (o :: rest) a w := by
  refine wpList_plain hg fun K' hK' => ?_
  obtain ⟨w', hrun, r1, r2⟩ := hown.update K ht hn hkey hval
  unfold Oper.wp
  simp [execOp, hop, hm, hx, hv, hrun, Result.andThen]
  exact hK' _ _ (hK w' r1 r2)

theorem Try.lawStr : Keyed Try.prog 9 := string_keyed Try.underlying9
theorem Try.zeroInt (w : World) : (zeroValue 3).run Try.prog w = .ok (.int .i64 0) w := by kernel_rfl

abbrev Table := DataW Unit
def strL (s : ByteArray) : Lit := .string s.data.toList
theorem strL_inj {a b : ByteArray} (h : strL a = strL b) : a = b := by
  simp only [strL, Lit.string.injEq] at h
  exact bytes_ext (by rw [ByteArray.toList_eq, ByteArray.toList_eq, h])
theorem strL_key (s : ByteArray) : WideAt.IsKeyLit (strL s) := by
  simp [strL, WideAt.IsKeyLit]

/-- A map from strings to ints lies in block B, and reads as D. -/
def MapAt (w : World) (B n : Nat) (D : Table) : Prop := w.ownsMap Try.prog 9 (plainElem Try.prog 3) B n D
def lit64 (z : Int) : Table := .lit (.int .i64 z)

/-- A table that has the constant and the coefficients of a form, and nothing else. -/
def PolyD (D : Table) (c : Int) (l : List (ByteArray × Int)) : Prop :=
  IsMap D ∧ (∀ zd, D.atKey (strL ByteArray.empty) zd = lit64 c) ∧ (∀ t ∈ l, ∀ zd, D.atKey (strL t.1) zd = lit64 t.2) ∧ (∀ kl, has D kl = true → kl = strL ByteArray.empty ∨ ∃ t ∈ l, kl = strL t.1)

theorem polyD_start (c : Int) : PolyD ((.map [] : Table).put (strL ByteArray.empty) (lit64 c)) c [] := by
  refine ⟨isMap_empty.put _ _, fun zd => atKey_put_same isMap_empty (strL_key _) _ _, fun t ht => (by cases ht), fun kl h => ?_⟩
  by_cases e : kl = strL ByteArray.empty
  · exact .inl e
  · rw [has_put_other e] at h
    simp [has_eq] at h

theorem polyD_step {D : Table} {c z : Int} {n : ByteArray} {l : List (ByteArray × Int)} (h : PolyD D c l) (hn : n ≠ ByteArray.empty) (hl : ∀ t ∈ l, t.1 ≠ n) : PolyD (D.put (strL n) (lit64 z)) c (l ++ [(n, z)]) := by
  obtain ⟨h1, h2, h3, h4⟩ := h
  refine ⟨h1.put _ _, fun zd => ?_, fun t ht zd => ?_, fun kl hk => ?_⟩
  · rw [atKey_put_other (fun e => hn (strL_inj e).symm)]
    exact h2 zd
  · rcases List.mem_append.1 ht with ht | ht
    · rw [atKey_put_other (fun e => hl t ht (strL_inj e))]
      exact h3 t ht zd
    · obtain rfl := List.mem_singleton.1 ht
      exact atKey_put_same h1 (strL_key _) _ _
  · by_cases e : kl = strL n
    · exact .inr ⟨(n, z), by simp, e⟩
    · rw [has_put_other e] at hk
      rcases h4 kl hk with h | ⟨t, ht, h⟩
      · exact .inl h
      · exact .inr ⟨t, by simp [ht], h⟩

theorem polyD_fresh {D : Table} {c : Int} {n : ByteArray} {l : List (ByteArray × Int)} (h : PolyD D c l) (hn : n ≠ ByteArray.empty) (hl : ∀ t ∈ l, t.1 ≠ n) (zd : Table) : D.atKey (strL n) zd = zd := by
  refine atKey_of_not_has ?_ zd
  rw [Bool.eq_false_iff]
  intro hh
  rcases h.2.2.2 _ hh with e | ⟨t, ht, e⟩
  · exact hn (strL_inj e)
  · exact hl t ht (strL_inj e).symm

end Go.Proofs.Ytjgddagladmgoaa
