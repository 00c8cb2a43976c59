/-
 The parts of a set while it is drawn: rows of sides, of conditions, of terms.
-/
import Derived.Test.YtjgddagladmgoaaValues
namespace Go.Proofs.Ytjgddagladmgoaa
open Go.RowKit

theorem flat_get {α β : Type} {f : α → List β} {k : Nat} (hf : ∀ a, (f a).length = k) : ∀ {l : List α} {j i : Nat} {a : α} {v : β}, l[j]? = some a → (f a)[i]? = some v → (l.flatMap f)[j * k + i]? = some v
  | [], j, i, a, v, h, _ => by simp at h
  | b :: r, 0, i, a, v, h, hv => by
    simp at h
    subst h
    have hi := (List.getElem?_eq_some_iff.1 hv).1
    rw [List.flatMap_cons, Nat.zero_mul, Nat.zero_add, List.getElem?_append_left hi]
    exact hv
  | b :: r, j + 1, i, a, v, h, hv => by
    have ih := flat_get hf (l := r) (j := j) (i := i) (a := a) (v := v) (by simpa using h) hv
    rw [List.flatMap_cons, List.getElem?_append_right (by rw [hf, Nat.succ_mul]; omega), hf]
    rw [show (j + 1) * k + i - k = j * k + i by rw [Nat.succ_mul]; omega]
    exact ih

theorem flat_length {α β : Type} {f : α → List β} {k : Nat} (hf : ∀ a, (f a).length = k) : ∀ (l : List α), (l.flatMap f).length = l.length * k
  | [] => by simp
  | a :: r => by rw [List.flatMap_cons, List.length_append, hf, flat_length hf r, List.length_cons, Nat.succ_mul]; omega

def sideCells (s : SideD) : List Value := [.string s.1, .int .i64 s.2.1, .int .i64 s.2.2]
def termCells (t : ByteArray × Int) : List Value := [.string t.1, .int .i64 t.2]
def condCells (q : CondD × Value) : List Value := [.int .i64 q.1.1, q.2]

/-- A cell of a row. -/
theorem own_cell {w : World} {base : Nat} {e : TypeId} {size : Nat} {v : Value} {n : Nat} {xs : List Value} (h : w.ownsRow base e size v n xs) {j : Nat} {u : Value} (hj : xs[j]? = some u) :
    ∃ g cap, v = .slice (some ⟨g, 0, none⟩) n cap ∧ base ≤ g ∧ w.cell? ⟨g, j, none⟩ = some u := by
  have hcells := fun g hg => World.ownsRow.cells (g := g) h hg
  rcases h.2 with ⟨rfl, hz⟩ | ⟨g, cap, cur, rfl, hb, _⟩
  · have := h.1
    rw [hz] at this
    simp at this
    rw [this] at hj
    simp at hj
  · have hadd : (⟨g, 0, none⟩ : Addr).add j = ⟨g, j, none⟩ := by unfold Addr.add; split <;> simp_all
    have := hcells g rfl j u hj
    rw [hadd] at this
    exact ⟨g, cap, rfl, hb, this⟩

/-- What a value that owns a row looks like. -/
theorem own_form {w : World} {base : Nat} {e : TypeId} {size : Nat} {v : Value} {n : Nat} {xs : List Value} (h : w.ownsRow base e size v n xs) : ∃ p cap, v = .slice p n cap := by
  rcases h.2 with ⟨rfl, hz⟩ | ⟨g, cap, cur, rfl, _⟩
  · exact ⟨none, 0, by rw [hz]⟩
  · exact ⟨_, _, rfl⟩

theorem own_cap {w : World} {base : Nat} {e : TypeId} {size : Nat} {p : Option Addr} {cap n : Nat} {xs : List Value} (h : w.ownsRow base e size (.slice p n cap) n xs) : n ≤ cap := by
  rcases h.2 with ⟨hv, hz⟩ | ⟨g, c, cur, hv, _, _, hc, _⟩
  · omega
  · obtain ⟨_, _, rfl⟩ := Value.slice.inj hv
    exact hc

def goodSide (s : SideD) : Prop := s.1.size ≤ 100 ∧ small s.2.1 ∧ small s.2.2
def goodTerm (t : ByteArray × Int) : Prop := t.1.size ≤ 100 ∧ small t.2

theorem sides_of_owns {w : World} {base : Nat} {e : TypeId} {v : Value} {l : List SideD} (h : w.ownsRow base e 3 v l.length (l.flatMap sideCells)) (hl : l.length ≤ 1000000) (hg : ∀ s ∈ l, goodSide s) : SidesAt w v l := by
  obtain ⟨p, cap, hv⟩ := own_form h
  refine ⟨p, cap, hv, ⟨hl, own_cap (hv ▸ h)⟩, fun j s hj => ?_⟩
  obtain ⟨g1, ⟨g2, g3⟩, ⟨g4, g5⟩⟩ := hg s (List.mem_of_getElem? hj)
  obtain ⟨b, c1, e1, _, k1⟩ := own_cell h (flat_get (k := 3) (fun _ => rfl) hj (i := 0) (v := .string s.1) rfl)
  obtain ⟨b2, c2, e2, _, k2⟩ := own_cell h (flat_get (k := 3) (fun _ => rfl) hj (i := 1) (v := .int .i64 s.2.1) rfl)
  obtain ⟨b3, c3, e3, _, k3⟩ := own_cell h (flat_get (k := 3) (fun _ => rfl) hj (i := 2) (v := .int .i64 s.2.2) rfl)
  rw [hv] at e1 e2 e3
  obtain ⟨rfl, _, _⟩ := Value.slice.inj e1
  obtain ⟨ee, _, _⟩ := Value.slice.inj e2
  obtain ⟨ee3, _, _⟩ := Value.slice.inj e3
  cases ee
  cases ee3
  refine ⟨b, 0, rfl, by unfold maxLen; omega, ⟨by omega, by omega⟩, ⟨by omega, by omega⟩, ?_, ?_, ?_⟩
  · simpa using k1
  · simpa using k2
  · simpa using k3

theorem terms_of_owns {w : World} {base : Nat} {e : TypeId} {v : Value} {l : List (ByteArray × Int)} (h : w.ownsRow base e 2 v l.length (l.flatMap termCells)) (hl : l.length ≤ 1000000) (hg : ∀ s ∈ l, goodTerm s) : TermsAt w v l := by
  obtain ⟨p, cap, hv⟩ := own_form h
  refine ⟨p, cap, hv, by unfold maxLen; omega, fun j s hj => ?_⟩
  obtain ⟨g1, g2, g3⟩ := hg s (List.mem_of_getElem? hj)
  obtain ⟨b, c1, e1, _, k1⟩ := own_cell h (flat_get (k := 2) (fun _ => rfl) hj (i := 0) (v := .string s.1) rfl)
  obtain ⟨b2, c2, e2, _, k2⟩ := own_cell h (flat_get (k := 2) (fun _ => rfl) hj (i := 1) (v := .int .i64 s.2) rfl)
  rw [hv] at e1 e2
  obtain ⟨rfl, _, _⟩ := Value.slice.inj e1
  obtain ⟨ee, _, _⟩ := Value.slice.inj e2
  cases ee
  refine ⟨b, 0, rfl, by unfold maxLen; omega, by omega, by omega, ?_, ?_⟩
  · simpa using k1
  · simpa using k2

/-- The conditions so far: a row of them, and a row of terms for each. -/
structure CSt (w : World) (P : Nat) (cv : Value) (l : List CondD) (tvs : List Value) : Prop where
  len : tvs.length = l.length
  row : w.ownsRow P 57 2 cv l.length ((l.zip tvs).flatMap condCells)
  terms : ∀ (j : Nat) (f : CondD) (tv : Value), l[j]? = some f → tvs[j]? = some tv → w.ownsRow P 59 2 tv f.2.length (f.2.flatMap termCells) ∧ (tv.ownBlock = none ∨ tv.ownBlock ≠ cv.ownBlock)
  good : ∀ f ∈ l, small f.1 ∧ f.2.length ≤ 1000 ∧ ∀ t ∈ f.2, goodTerm t

theorem CSt.start (w : World) (P : Nat) : CSt w P (.slice none 0 0) [] [] := ⟨rfl, World.ownsRow_nil _ _ _ _, fun j f tv h => by simp at h, fun f h => by cases h⟩

theorem CSt.kept {w w' : World} {P : Nat} {cv : Value} {l : List CondD} {tvs : List Value} {r : Option Nat} (h : CSt w P cv l tvs) (hg : w.grownBy w' r) (hr : ∀ k, r = some k → k < P) : CSt w' P cv l tvs := by
  have key : ∀ {e : TypeId} {size : Nat} {v : Value} {n : Nat} {xs : List Value}, w.ownsRow P e size v n xs → w'.ownsRow P e size v n xs := fun ho => by
    refine ho.kept hg ?_
    cases hb : Value.ownBlock _ with
    | none => exact .inl rfl
    | some g =>
      refine .inr fun e => ?_
      have := (ho.lt g hb).1
      have := hr g e.symm
      omega
  exact ⟨h.len, key h.row, fun j f tv h1 h2 => ⟨key (h.terms j f tv h1 h2).1, (h.terms j f tv h1 h2).2⟩, h.good⟩

theorem CSt.conds {w : World} {P : Nat} {cv : Value} {l : List CondD} {tvs : List Value} (h : CSt w P cv l tvs) (hl : l.length ≤ 1000000) : CondsAt w cv l := by
  obtain ⟨p, cap, hv⟩ := own_form h.row
  refine ⟨p, cap, hv, hl, fun j f hj => ?_⟩
  have hjl := (List.getElem?_eq_some_iff.1 hj).1
  have hjt : tvs[j]? = some (tvs[j]'(by rw [h.len]; exact hjl)) := List.getElem?_eq_getElem _
  generalize tvs[j]'(by rw [h.len]; exact hjl) = tv at hjt
  have hz : (l.zip tvs)[j]? = some (f, tv) := by
    rw [List.getElem?_zip_eq_some]
    exact ⟨hj, hjt⟩
  obtain ⟨⟨g1, g2⟩, g3, g4⟩ := h.good f (List.mem_of_getElem? hj)
  obtain ⟨b, c1, e1, _, k1⟩ := own_cell h.row (flat_get (k := 2) (fun _ => rfl) hz (i := 0) (v := .int .i64 f.1) rfl)
  obtain ⟨b2, c2, e2, _, k2⟩ := own_cell h.row (flat_get (k := 2) (fun _ => rfl) hz (i := 1) (v := tv) rfl)
  rw [hv] at e1 e2
  obtain ⟨rfl, _, _⟩ := Value.slice.inj e1
  obtain ⟨ee, _, _⟩ := Value.slice.inj e2
  cases ee
  exact ⟨b, 0, tv, rfl, by simpa using k1, by simpa using k2, terms_of_owns (h.terms j f tv hj hjt).1 (by omega) g4, by omega, by omega⟩

/-- A condition is added. -/
theorem CSt.push {w w1 w2 : World} {P B : Nat} {cv cv' tv : Value} {l : List CondD} {tvs : List Value} {c : Int} {ts : List (ByteArray × Int)} {g cap : Nat} (h : CSt w P cv l tvs) (hB : B < P) (hP : P ≤ w.heap.size)
    (k1 : w.grownBy w1 (some B)) (ht : w1.ownsRow w.heap.size 59 2 tv ts.length (ts.flatMap termCells)) (k2 : w1.grownBy w2 cv.ownBlock)
    (row : w2.ownsRow P 57 2 cv' (l.length + 1) ((l.zip tvs).flatMap condCells ++ condCells ((c, ts), tv))) (hv : cv' = .slice (some ⟨g, 0, none⟩) (l.length + 1) cap) (hg : cv.ownBlock = some g ∨ w1.heap.size ≤ g)
    (good : small c ∧ ts.length ≤ 1000 ∧ ∀ t ∈ ts, goodTerm t) : CSt w2 P cv' (l ++ [(c, ts)]) (tvs ++ [tv]) := by
  have hob : ∀ k, cv.ownBlock = some k → P ≤ k ∧ k < w.heap.size := h.row.lt
  have hgv : cv'.ownBlock = some g := by rw [hv]; rfl
  have h1 := h.kept k1 (fun k hk => by cases hk; exact hB)
  have ht' : w1.ownsRow P 59 2 tv ts.length (ts.flatMap termCells) := by
    obtain ⟨a1, a2⟩ := ht
    refine ⟨a1, ?_⟩
    rcases a2 with a2 | ⟨g, cap, cur, hv, hb, r⟩
    · exact .inl a2
    · exact .inr ⟨g, cap, cur, hv, by omega, r⟩
  refine ⟨by simp [h.len], ?_, fun j f u hj hu => ?_, fun f hf => ?_⟩
  · rw [List.length_append, List.zip_append (by rw [h.len]), List.flatMap_append]
    simpa using row
  · by_cases hj' : j < l.length
    · rw [List.getElem?_append_left hj'] at hj
      rw [List.getElem?_append_left (by rw [h.len]; exact hj')] at hu
      obtain ⟨r1, r2⟩ := h1.terms j f u hj hu
      have r0 := (h.terms j f u hj hu).1
      refine ⟨r1.kept k2 r2, ?_⟩
      cases hb : u.ownBlock with
      | none => exact .inl rfl
      | some b =>
        refine .inr fun e => ?_
        rw [hgv] at e
        have e := Option.some.inj e
        rcases hg with hg | hg
        · rcases r2 with r2 | r2
          · rw [hb] at r2; cases r2
          · exact r2 (by rw [hb, hg, e])
        · have := (r0.lt b hb).2
          have := k1.size
          omega
    · have hj2 : j = l.length := by
        have := (List.getElem?_eq_some_iff.1 hj).1
        simp at this
        omega
      subst hj2
      simp at hj
      subst hj
      rw [← h.len] at hu
      simp at hu
      subst hu
      refine ⟨ht'.kept k2 ?_, ?_⟩
      · cases hb : tv.ownBlock with
        | none => exact .inl rfl
        | some b =>
          refine .inr fun e => ?_
          have := (ht.lt b hb).1
          have := hob b e.symm
          omega
      · cases hb : tv.ownBlock with
        | none => exact .inl rfl
        | some b =>
          refine .inr fun e => ?_
          rw [hgv] at e
          have e := Option.some.inj e
          have h5 := (ht.lt b hb).1
          have h6 := (ht.lt b hb).2
          rcases hg with hg | hg
          · have := hob g hg
            omega
          · omega
  · rcases List.mem_append.1 hf with hf | hf
    · exact h.good f hf
    · obtain rfl := List.mem_singleton.1 hf
      exact good

end Go.Proofs.Ytjgddagladmgoaa
