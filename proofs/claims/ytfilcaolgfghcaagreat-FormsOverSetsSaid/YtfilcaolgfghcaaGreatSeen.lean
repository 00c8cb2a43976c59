/-
 Lists of up to eight ints as keys of a map.
 The lists of values seen so far, as a map.
-/
import Derived.Test.YtfilcaolgfghcaaGreatOverEq
import Derived.Test.YtfilcaolgfghcaaGreatValue
import Derived.WideKeyPair
namespace Go.Proofs.YtfilcaolgfghcaaGreat
open Go.RowKit Go.Maps Go.WideMaps

theorem Tryz.arr8 : ArrKey Tryz.prog 124 3 8 := ⟨Tryz.underlying124, by kernel_rfl, by kernel_rfl, by kernel_rfl⟩
theorem Tryz.lawArr : Keyed Tryz.prog 124 := Keyed.of_law Tryz.arr8.law

theorem lits_of {P : Program} {e : TypeId} {q : IntKind} {f : Nat} (he : P.underlying e = some (.int q)) : ∀ (xs : List Int), (∀ x ∈ xs, (Lit.int q x).wf = true) → ∀ (pre : List Int),
    ((List.range' pre.length xs.length).mapM fun i => P.keyLits (f + 1) e ((((pre ++ xs).map (Value.int q)).drop (i * 1)).take 1)) = some (xs.map fun x => [.int q x])
  | [], _, pre => rfl
  | x :: xs, h, pre => by
    have ih := lits_of (f := f) he xs (fun y hy => h y (List.mem_cons_of_mem _ hy)) (pre ++ [x])
    rw [List.length_append, List.length_singleton, List.append_assoc, List.singleton_append] at ih
    rw [List.length_cons, List.range'_succ, List.mapM_cons, ih]
    have hd : (((pre ++ x :: xs).map (Value.int q)).drop (pre.length * 1)).take 1 = [Value.int q x] := by simp
    rw [hd]
    simp [Program.keyLits, he, h x List.mem_cons_self]

theorem keyOf_arr {P : Program} {k e : TypeId} {q : IntKind} {n : Nat} (A : ArrKey P k e n) (he : P.underlying e = some (.int q)) (hsz : ∃ m, P.types.size = m + 1) {xs : List Int} (hl : xs.length = n) (hw : ∀ x ∈ xs, (Lit.int q x).wf = true) :
    keyOf P k (.agg (xs.map (Value.int q)).toArray) = some (.string (keyBytes (xs.map (Lit.int q)))) := by
  have hkt := A.keyType hsz
  obtain ⟨m, hm⟩ := hsz
  unfold keyOf
  simp only [A.hu]
  rw [if_pos (by simp [hkt, Value.formed, A.hu, A.size, hl]), hm]
  unfold Program.keyLits
  simp only [A.hu, Value.cells]
  have h := lits_of (f := m) he xs hw []
  rw [List.length_nil, hl, ← List.range_eq_range', List.nil_append] at h
  rw [if_pos (by rw [A.size]; simpa using hl), A.one, h]
  have hfl : ∀ l : List Int, (l.map fun x => [Lit.int q x]).flatten = l.map (Lit.int q) := fun l => by induction l with | nil => rfl | cons a r ih => simp [ih]
  simp [hfl]

/-- A list of values, filled up with zeros. -/
def padL (n : Nat) (xs : List Int) : List Int := xs ++ List.replicate (n - xs.length) 0
def keyL (xs : List Int) : Lit := .string (keyBytes ((padL 8 xs).map (Lit.int .i64)))
theorem padL_length {n : Nat} {xs : List Int} (h : xs.length ≤ n) : (padL n xs).length = n := by simp [padL]; omega
theorem padL_inj {n m : Nat} {xs ys : List Int} (hx : xs.length = m) (hy : ys.length = m) (h : padL n xs = padL n ys) : xs = ys := by
  unfold padL at h
  exact (List.append_inj h (by rw [hx, hy])).1
def inI64 (xs : List Int) : Prop := ∀ x ∈ xs, (Lit.int .i64 x).wf = true
theorem keyOf_list {xs : List Int} (hl : xs.length ≤ 8) (hw : inI64 xs) : keyOf Tryz.prog 124 (.agg ((padL 8 xs).map (Value.int .i64)).toArray) = some (keyL xs) := by
  refine keyOf_arr Tryz.arr8 Tryz.underlying3 ⟨Tryz.prog.types.size - 1, by kernel_rfl⟩ (padL_length hl) ?_
  intro x hx
  rcases List.mem_append.1 hx with h | h
  · exact hw x h
  · rw [List.eq_of_mem_replicate h]; rfl
theorem keyL_inj {m : Nat} {xs ys : List Int} (hm : m ≤ 8) (hx : xs.length = m) (hy : ys.length = m) (h1 : inI64 xs) (h2 : inI64 ys) (h : keyL xs = keyL ys) : xs = ys := by
  have a := keyOf_list (xs := xs) (by omega) h1
  have b := keyOf_list (xs := ys) (by omega) h2
  rw [← h] at b
  have c := Tryz.lawArr.inj a b
  simp only [Value.agg.injEq] at c
  have d := congrArg Array.toList c
  simp only at d
  refine padL_inj (n := 8) hx hy ?_
  exact (List.map_inj_right (fun a b h => (Value.int.inj h).2)).1 d

end Go.Proofs.YtfilcaolgfghcaaGreat

namespace Go.Proofs.YtfilcaolgfghcaaGreat
open Go.RowKit Go.Maps Go.WideMaps

def valsOf (rs : List RowD) (pt : List Int) : List Int := rs.map fun r => rowVal r pt
def distStep (rs : List RowD) (acc : List (List Int)) (pt : List Int) : List (List Int) := if valsOf rs pt ∈ acc then acc else acc ++ [valsOf rs pt]
/-- The different lists of values at points, in the order in which they come. -/
def distL (rs : List RowD) (d : List (List Int)) : List (List Int) := d.foldl (distStep rs) []
theorem distL_snoc (rs : List RowD) (d : List (List Int)) (pt : List Int) : distL rs (d ++ [pt]) = distStep rs (distL rs d) pt := by simp [distL]
theorem distL_len (rs : List RowD) : ∀ (d acc : List (List Int)), (d.foldl (distStep rs) acc).length ≤ acc.length + d.length
  | [], acc => by simp
  | pt :: d, acc => by
    have h := distL_len rs d (distStep rs acc pt)
    have h2 : (distStep rs acc pt).length ≤ acc.length + 1 := by unfold distStep; split <;> simp
    simp only [List.foldl_cons, List.length_cons]
    omega
theorem distL_mem (rs : List RowD) : ∀ (d acc : List (List Int)) (v : List Int), v ∈ d.foldl (distStep rs) acc → v ∈ acc ∨ ∃ pt ∈ d, v = valsOf rs pt
  | [], acc, v, h => .inl h
  | pt :: d, acc, v, h => by
    rcases distL_mem rs d (distStep rs acc pt) v h with h1 | ⟨q, hq, rfl⟩
    · unfold distStep at h1
      split at h1
      · exact .inl h1
      · rcases List.mem_append.1 h1 with h2 | h2
        · exact .inl h2
        · exact .inr ⟨pt, List.mem_cons_self, List.mem_singleton.1 h2⟩
    · exact .inr ⟨q, List.mem_cons_of_mem _ hq, rfl⟩

/-- A map that has exactly lists of m values as keys, each with true. -/
def SeenD (m : Nat) (D : Table) (L : List (List Int)) : Prop :=
  IsMap D ∧ (∀ v ∈ L, v.length = m ∧ inI64 v) ∧ (∀ v ∈ L, ∀ zd, D.atKey (keyL v) zd = .lit (.bool true)) ∧ ∀ kl, has D kl = true → ∃ v ∈ L, kl = keyL v

theorem keyL_key (v : List Int) : WideAt.IsKeyLit (keyL v) := by simp [keyL, WideAt.IsKeyLit]
theorem seenD_start (m : Nat) : SeenD m (.map [] : Table) [] := ⟨isMap_empty, fun v h => (by cases h), fun v h => (by cases h), fun kl h => (by simp [has_eq] at h)⟩
theorem seenD_step {m : Nat} {D : Table} {L : List (List Int)} {v : List Int} (hm : m ≤ 8) (h : SeenD m D L) (hl : v.length = m) (hw : inI64 v) (hn : v ∉ L) : SeenD m (D.put (keyL v) (.lit (.bool true))) (L ++ [v]) := by
  obtain ⟨h1, h2, h3, h4⟩ := h
  refine ⟨h1.put _ _, fun u hu => ?_, fun u hu zd => ?_, fun kl hk => ?_⟩
  · rcases List.mem_append.1 hu with hu | hu
    · exact h2 u hu
    · obtain rfl := List.mem_singleton.1 hu
      exact ⟨hl, hw⟩
  · rcases List.mem_append.1 hu with hu | hu
    · rw [atKey_put_other (fun e => hn (by rw [keyL_inj hm hl (h2 u hu).1 hw (h2 u hu).2 (by first | exact e | exact e.symm)]; exact hu))]
      exact h3 u hu zd
    · obtain rfl := List.mem_singleton.1 hu
      exact atKey_put_same h1 (keyL_key _) _ _
  · by_cases e : kl = keyL v
    · exact ⟨v, by simp, e⟩
    · rw [has_put_other e] at hk
      obtain ⟨u, hu, e2⟩ := h4 kl hk
      exact ⟨u, by simp [hu], e2⟩
theorem seenD_fresh {m : Nat} {D : Table} {L : List (List Int)} {v : List Int} (hm : m ≤ 8) (h : SeenD m D L) (hl : v.length = m) (hw : inI64 v) (hn : v ∉ L) (zd : Table) : D.atKey (keyL v) zd = zd := by
  refine atKey_of_not_has ?_ zd
  rw [Bool.eq_false_iff]
  intro hh
  obtain ⟨u, hu, e⟩ := h.2.2.2 _ hh
  obtain rfl := keyL_inj hm hl (h.2.1 u hu).1 hw (h.2.1 u hu).2 e
  exact hn hu

theorem plainElem_bool_inv {P : Program} {e : TypeId} (he : P.underlying e = some .bool) {v : Value} {z : Table × List MemPlace} (h : plainElem P e v = some z) : ∃ b, v = .bool b ∧ z = (.lit (.bool b), []) := by
  unfold plainElem at h
  rw [he] at h
  split at h
  · rename_i b _
    cases h
    exact ⟨_, rfl, rfl⟩
  all_goals simp_all

/-- The block of the map. -/
def SeenAt (w : World) (B n : Nat) (D : Table) : Prop := w.ownsMap Tryz.prog 124 (plainElem Tryz.prog 4) B n D
theorem Tryz.zeroBool (w : World) : (zeroValue 4).run Tryz.prog w = .ok (.bool false) w := by kernel_rfl

theorem SeenAt.look {w : World} {B n m : Nat} {D : Table} {L : List (List Int)} {v : List Int} (h : SeenAt w B n D) (hD : SeenD m D L) (hm : m ≤ 8) (hl : v.length = m) (hw : inI64 v) :
    (Instr.lookup 123 (.map (some B)) (.agg ((padL 8 v).map (Value.int .i64)).toArray) false).run Tryz.prog w = .ok (.bool (decide (v ∈ L))) w := by
  obtain ⟨x, ps, hrun, hx⟩ := World.ownsMap.lookup h Tryz.lawArr Tryz.underlying123 (Tryz.zeroBool w) (plainElem_bool Tryz.underlying4 false) (keyOf_list (by omega) hw)
  obtain ⟨b, rfl, hb⟩ := plainElem_bool_inv Tryz.underlying4 hx
  rw [hrun]
  have hb' := congrArg Prod.fst hb
  simp only at hb'
  by_cases hv : v ∈ L
  · rw [hD.2.2.1 v hv] at hb'
    obtain rfl : true = b := by simpa using hb'
    simp [hv]
  · rw [seenD_fresh hm hD hl hw hv] at hb'
    obtain rfl : false = b := by simpa using hb'
    simp [hv]
theorem SeenAt.enter {w : World} {B n m : Nat} {D : Table} {v : List Int} (h : SeenAt w B n D) (hn : n < maxLen) (hm : m ≤ 8) (hl : v.length = m) (hw : inI64 v) :
    ∃ w', (Instr.mapUpdate 123 (.map (some B)) (.agg ((padL 8 v).map (Value.int .i64)).toArray) (.bool true)).run Tryz.prog w = .ok () w' ∧ SeenAt w' B (n + 1) (D.put (keyL v) (.lit (.bool true))) ∧ w.grownBy w' (some B) :=
  World.ownsMap.update h Tryz.lawArr Tryz.underlying123 hn (keyOf_list (by omega) hw) (plainElem_bool Tryz.underlying4 true)

end Go.Proofs.YtfilcaolgfghcaaGreat
