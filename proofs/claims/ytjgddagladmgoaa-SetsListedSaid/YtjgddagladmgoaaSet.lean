/-
 Sets, as they lie in memory; what is wrong with them.
-/
import Derived.Test.YtjgddagladmgoaaAround
namespace Go.Proofs.Ytjgddagladmgoaa
open Go.RowKit

theorem grown_own {a b c : World} {r : Option Nat} (h : a.grownBy b none) (k : b.grownBy c r) (hr : ∀ i, r = some i → a.heap.size ≤ i) : a.grownBy c none :=
  ⟨k.os.trans h.os, k.tape.trans h.tape, k.output.trans h.output, Nat.le_trans h.size k.size,
    fun i hi _ => (k.block i (Nat.lt_of_lt_of_le hi h.size) (fun e => by have := hr i e.symm; omega)).trans (h.block i hi (by simp))⟩

theorem strs_of_owns {w : World} {base : Nat} {e : TypeId} {v : Value} {zs : List ByteArray} (h : w.ownsRow base e 1 v zs.length (zs.map Value.string)) (hl : zs.length ≤ maxLen) : StrsAt w v zs := by
  have hcells := fun g hg => World.ownsRow.cells (g := g) h hg
  rcases h.2 with ⟨rfl, hz⟩ | ⟨g, cap, cur, rfl, _⟩
  · exact ⟨none, 0, by rw [hz], hl, fun j s hj => by rw [List.length_eq_zero_iff.1 hz] at hj; simp at hj⟩
  · refine ⟨_, cap, rfl, hl, fun j s hj => ⟨g, 0, rfl, ?_⟩⟩
    have hadd : (⟨g, 0, none⟩ : Addr).add j = ⟨g, j, none⟩ := by unfold Addr.add; split <;> simp_all
    have := hcells g rfl j (.string s) (by simp [hj])
    rw [hadd] at this
    simpa using this

theorem owns_kept {w w' : World} {base : Nat} {e : TypeId} {size : Nat} {v : Value} {n : Nat} {xs : List Value} (h : w.ownsRow base e size v n xs) (hg : w.grownBy w' none) : w'.ownsRow base e size v n xs :=
  h.kept hg (by cases v.ownBlock <;> simp)

theorem news_at {w : World} {news : List Value} {e : TypeId} : ∀ j u, news[j]? = some u → (w.alloc (.cells news.toArray e)).cell? ((⟨w.heap.size, 0, none⟩ : Addr).add j) = some u := by
  intro j u hj
  have hadd : (⟨w.heap.size, 0, none⟩ : Addr).add j = ⟨w.heap.size, j, none⟩ := by unfold Addr.add; split <;> simp_all
  rw [hadd]
  simp [hj]

/-- The append of one element, that was just laid in a block of its own, onto a row of the call's own. -/
theorem append_one {P : Program} {ops : Array Oper} {rest : List Oper} {o : Oper} {a : Act} {Q : Exit → Act → World → Prop} {w : World} (hgd : o.guard = none) (s x : Operand) (t : TypeId)
    (ho : o.op = .call { callee := .builtin .append, args := #[s, x], argTypes := #[t, t] })
    (base : Nat) (e : TypeId) (i : TypeInfo) (z : Value) (size bytes : Nat) (ht : P.underlying t = some (.slice e)) (hi : P.info? e = some i) (hz : i.zero = some z)
    (hsize : i.size = size) (hby : i.bytes = bytes) (hzs : z.cells.size = size) (hsz : 0 < size) (hbb : bytes ≤ 1000)
    (v : Value) (n : Nat) (xs news : List Value) (hs : a.eval s = v) (hown : w.ownsRow base e size v n xs)
    (hx : a.eval x = .slice (some ⟨w.heap.size, 0, none⟩) 1 1) (hl : news.length = size) (h1 : ∀ u ∈ news, u.oneCell' = true)
    (hn : n ≤ 1000000) (hbase : base ≤ w.heap.size)
    (h : ∀ v' w', w'.ownsRow base e size v' (n + 1) (xs ++ news) → (∀ w0 : World, w0.heap.size ≤ base → w0.grownBy w none → w0.grownBy w' none) → wpList P ops Q rest (a.put o.dst v') w') :
    wpList P ops Q (o :: rest) a (w.alloc (.cells news.toArray e)) := by
  refine wpList_append_own _ hgd s x t ho base e i z size bytes ht hi hz hsize hby hzs hsz v n xs hs (hown.alloc _) ⟨w.heap.size, 0, none⟩ 1 1 news hx (by omega) news_at h1 (by unfold maxLen; omega) ?_ (by simp; omega) ?_
  · have : (n + 1) * bytes ≤ 1000001 * 1000 := Nat.mul_le_mul (by omega) hbb
    omega
  · intro v' w' ho' hg _
    refine h v' w' ho' fun w0 h0 hw0 => grown_own (grownBy_trans hw0 (World.grownBy_alloc _ _ _)) hg fun k hk => ?_
    have := (hown.lt k hk).1
    omega

abbrev SideD := ByteArray × Int × Int
abbrev CondD := Int × List (ByteArray × Int)

def SideAt (w : World) (p : Option Addr) (s : SideD) (j : Nat) : Prop :=
  ∃ b off, p = some ⟨b, off, none⟩ ∧ s.1.size ≤ maxLen ∧ (-9223372036854775808 ≤ s.2.1 ∧ s.2.1 ≤ 9223372036854775807) ∧ (-9223372036854775808 ≤ s.2.2 ∧ s.2.2 ≤ 9223372036854775807) ∧
    w.cell? ⟨b, off + j * 3, none⟩ = some (.string s.1) ∧ w.cell? ⟨b, off + j * 3 + 1, none⟩ = some (.int .i64 s.2.1) ∧ w.cell? ⟨b, off + j * 3 + 2, none⟩ = some (.int .i64 s.2.2)

def CondAt (w : World) (p : Option Addr) (f : CondD) (j : Nat) : Prop :=
  ∃ b off tv, p = some ⟨b, off, none⟩ ∧ w.cell? ⟨b, off + j * 2, none⟩ = some (.int .i64 f.1) ∧ w.cell? ⟨b, off + j * 2 + 1, none⟩ = some tv ∧ TermsAt w tv f.2 ∧
    -9223372036854775808 ≤ f.1 ∧ f.1 ≤ 9223372036854775807

theorem SideAt.kept {w w' : World} {p : Option Addr} {s : SideD} {j : Nat} (h : SideAt w p s j) (hg : w.grownBy w' none) : SideAt w' p s j := by
  obtain ⟨b, off, hp, h1, h2, h3, h4, h5, h6⟩ := h
  exact ⟨b, off, hp, h1, h2, h3, hg.cell h4 (by simp), hg.cell h5 (by simp), hg.cell h6 (by simp)⟩

theorem CondAt.kept {w w' : World} {p : Option Addr} {f : CondD} {j : Nat} (h : CondAt w p f j) (hg : w.grownBy w' none) : CondAt w' p f j := by
  obtain ⟨b, off, tv, hp, h1, h2, h3, h4, h5⟩ := h
  exact ⟨b, off, tv, hp, hg.cell h1 (by simp), hg.cell h2 (by simp), h3.kept hg, h4, h5⟩

def SidesAt (w : World) (v : Value) (l : List SideD) : Prop :=
  ∃ p cap, v = .slice p l.length cap ∧ (l.length ≤ 1000000 ∧ l.length ≤ cap) ∧ ∀ j s, l[j]? = some s → SideAt w p s j
def CondsAt (w : World) (v : Value) (l : List CondD) : Prop :=
  ∃ p cap, v = .slice p l.length cap ∧ l.length ≤ 1000000 ∧ ∀ j f, l[j]? = some f → CondAt w p f j

theorem SidesAt.kept {w w' : World} {v : Value} {l : List SideD} (h : SidesAt w v l) (hg : w.grownBy w' none) : SidesAt w' v l := by
  obtain ⟨p, cap, hv, hl, hc⟩ := h
  exact ⟨p, cap, hv, hl, fun j t hj => (hc j t hj).kept hg⟩
theorem CondsAt.kept {w w' : World} {v : Value} {l : List CondD} (h : CondsAt w v l) (hg : w.grownBy w' none) : CondsAt w' v l := by
  obtain ⟨p, cap, hv, hl, hc⟩ := h
  exact ⟨p, cap, hv, hl, fun j t hj => (hc j t hj).kept hg⟩

/-- A set lies in memory: its two slices. -/
def SetAt (w : World) (sv cv : Value) (S : List SideD × List CondD) : Prop := SidesAt w sv S.1 ∧ CondsAt w cv S.2
theorem SetAt.kept {w w' : World} {sv cv : Value} {S : List SideD × List CondD} (h : SetAt w sv cv S) (hg : w.grownBy w' none) : SetAt w' sv cv S := ⟨h.1.kept hg, h.2.kept hg⟩

def sideBad (lo hi : Int) : Bool := !inB lo (-1000000) 1000000 || !inB hi (-1000000) 1000000
def sidesErr : List ByteArray → List SideD → Int
  | _, [] => 0
  | seen, s :: r => if nameB s.1 then (if containsB seen s.1 then 6 else if sideBad s.2.1 s.2.2 then 1 else sidesErr (seen ++ [s.1]) r) else 5
def namesOf (l : List SideD) : List ByteArray := l.map (·.1)
def condsErr (names : List ByteArray) : List CondD → Int
  | [] => 0
  | f :: r => if aroundErr names f == 0 then condsErr names r else aroundErr names f
def emptyB (l : List SideD) : Bool := l.any fun s => decide (s.2.2 < s.2.1)
def boxOver : Int → List SideD → Bool
  | _, [] => false
  | n, s :: r => if 200000 < n * (s.2.2 - s.2.1 + 1) then true else boxOver (n * (s.2.2 - s.2.1 + 1)) r
def setErr (S : List SideD × List CondD) : Int :=
  if 8 < S.1.length then 2 else if sidesErr [] S.1 == 0 then (if 60 < S.2.length then 2 else if condsErr (namesOf S.1) S.2 == 0 then (if emptyB S.1 then 0 else if boxOver 1 S.1 then 12 else 0) else condsErr (namesOf S.1) S.2)
    else sidesErr [] S.1

theorem sidesErr_drop {l : List SideD} {k : Nat} {s : SideD} (seen : List ByteArray) (h : l[k]? = some s) :
    sidesErr seen (l.drop k) = if nameB s.1 then (if containsB seen s.1 then 6 else if sideBad s.2.1 s.2.2 then 1 else sidesErr (seen ++ [s.1]) (l.drop (k + 1))) else 5 := by
  obtain ⟨hk, rfl⟩ := List.getElem?_eq_some_iff.1 h
  rw [List.drop_eq_getElem_cons hk]
  rfl
theorem condsErr_drop {names : List ByteArray} {l : List CondD} {k : Nat} {f : CondD} (h : l[k]? = some f) :
    condsErr names (l.drop k) = if aroundErr names (f.1, f.2) == 0 then condsErr names (l.drop (k + 1)) else aroundErr names (f.1, f.2) := by
  obtain ⟨hk, rfl⟩ := List.getElem?_eq_some_iff.1 h
  rw [List.drop_eq_getElem_cons hk]
  rfl
theorem namesOf_take {l : List SideD} {k : Nat} {s : SideD} (h : l[k]? = some s) : namesOf (l.take (k + 1)) = namesOf (l.take k) ++ [s.1] := by
  obtain ⟨hk, rfl⟩ := List.getElem?_eq_some_iff.1 h
  unfold namesOf
  rw [List.take_succ_eq_append_getElem hk, List.map_append]
  rfl
theorem namesOf_len (l : List SideD) (k : Nat) (hk : k ≤ l.length) : (namesOf (l.take k)).length = k := by simp [namesOf]; omega
theorem emptyB_snoc {l : List SideD} {k : Nat} {s : SideD} (h : l[k]? = some s) : emptyB (l.take (k + 1)) = (emptyB (l.take k) || decide (s.2.2 < s.2.1)) := by
  obtain ⟨hk, rfl⟩ := List.getElem?_eq_some_iff.1 h
  unfold emptyB
  rw [List.take_succ_eq_append_getElem hk, List.any_append]
  simp
theorem emptyB_stop {l : List SideD} {k : Nat} {s : SideD} (h : l[k]? = some s) (hs : s.2.2 < s.2.1) : emptyB l = true := by
  obtain ⟨hk, rfl⟩ := List.getElem?_eq_some_iff.1 h
  exact List.any_eq_true.2 ⟨_, List.getElem_mem hk, by simpa using hs⟩
theorem not_empty {l : List SideD} (h : emptyB l = false) {s : SideD} (hs : s ∈ l) : s.2.1 ≤ s.2.2 := by
  have := List.any_eq_false.1 h s hs
  simp at this
  exact this
/-- A side within the limits, not empty. -/
theorem side_range {lo hi : Int} (h : sideBad lo hi = false) : -1000000 ≤ lo ∧ lo ≤ 1000000 ∧ -1000000 ≤ hi ∧ hi ≤ 1000000 := by
  simp [sideBad, inB] at h
  omega
theorem boxOver_drop {l : List SideD} {k : Nat} {s : SideD} (n : Int) (h : l[k]? = some s) :
    boxOver n (l.drop k) = if 200000 < n * (s.2.2 - s.2.1 + 1) then true else boxOver (n * (s.2.2 - s.2.1 + 1)) (l.drop (k + 1)) := by
  obtain ⟨hk, rfl⟩ := List.getElem?_eq_some_iff.1 h
  rw [List.drop_eq_getElem_cons hk]
  rfl

theorem setErr_1 {S : List SideD × List CondD} {x : Int} (h8 : ¬ 8 < S.1.length) (hx : sidesErr [] S.1 = x) (hne : x ≠ 0) : setErr S = x := by
  simp [setErr, h8, hx, hne]
theorem setErr_2 {S : List SideD × List CondD} (h8 : ¬ 8 < S.1.length) (hx : sidesErr [] S.1 = 0) (h60 : 60 < S.2.length) : setErr S = 2 := by
  simp [setErr, h8, hx, h60]
theorem setErr_3 {S : List SideD × List CondD} {x : Int} (h8 : ¬ 8 < S.1.length) (hx : sidesErr [] S.1 = 0) (h60 : ¬ 60 < S.2.length) (hc : condsErr (namesOf S.1) S.2 = x) (hne : x ≠ 0) : setErr S = x := by
  simp [setErr, h8, hx, h60, hc, hne]
theorem setErr_4 {S : List SideD × List CondD} (h8 : ¬ 8 < S.1.length) (hx : sidesErr [] S.1 = 0) (h60 : ¬ 60 < S.2.length) (hc : condsErr (namesOf S.1) S.2 = 0) :
    setErr S = if emptyB S.1 then 0 else if boxOver 1 S.1 then 12 else 0 := by
  simp [setErr, h8, hx, h60, hc]

/-- Sides without an error lie within the limits. -/
theorem sides_good {l : List SideD} : ∀ seen, sidesErr seen l = 0 → ∀ s ∈ l, nameB s.1 = true ∧ sideBad s.2.1 s.2.2 = false := by
  induction l with
  | nil => intro _ _ s hs; cases hs
  | cons x r ih =>
    intro seen h s hs
    simp only [sidesErr] at h
    split at h
    · split at h
      · cases h
      · split at h
        · cases h
        · rcases List.mem_cons.1 hs with rfl | hs
          · exact ⟨by assumption, by simpa using ‹¬ sideBad _ _ = true›⟩
          · exact ih _ h s hs
    · cases h

end Go.Proofs.Ytjgddagladmgoaa
