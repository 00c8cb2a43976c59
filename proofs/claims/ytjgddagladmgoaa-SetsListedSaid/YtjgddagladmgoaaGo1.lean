/-
 The state of PointsIn's recursion: where the numbers, the points so far and the closure lie.
-/
import Derived.Test.YtjgddagladmgoaaClone
namespace Go.Proofs.Ytjgddagladmgoaa
open Go.RowKit

def rangeI (lo : Int) (n : Nat) : List Int := (List.range n).map (fun (k : Nat) => lo + (k : Int))
/-- All points of a set that begin so, in order. -/
def pointsFrom (S : List SideD × List CondD) : List Int → List SideD → List (List Int)
  | pre, [] => if pointB S pre then [pre] else []
  | pre, s :: r => (rangeI s.2.1 (s.2.2 - s.2.1 + 1).toNat).flatMap fun v => pointsFrom S (pre ++ [v]) r
def boxN : List SideD → Nat
  | [] => 1
  | s :: r => (s.2.2 - s.2.1 + 1).toNat * boxN r

theorem length_flatMap_le {α β : Type} {f : α → List β} {m : Nat} : ∀ {l : List α}, (∀ a ∈ l, (f a).length ≤ m) → (l.flatMap f).length ≤ l.length * m
  | [], _ => by simp
  | a :: r, h => by
    have h1 := h a (by simp)
    have h2 := length_flatMap_le (l := r) (fun a ha => h a (by simp [ha]))
    simp only [List.flatMap_cons, List.length_append, List.length_cons, Nat.succ_mul]
    omega
theorem pointsFrom_length (S : List SideD × List CondD) : ∀ (rest : List SideD) (pre : List Int), (pointsFrom S pre rest).length ≤ boxN rest
  | [], pre => by
    simp only [pointsFrom, boxN]
    split <;> simp
  | s :: r, pre => by
    simp only [pointsFrom, boxN]
    refine Nat.le_trans (length_flatMap_le (m := boxN r) fun v _ => pointsFrom_length S r _) ?_
    simp [rangeI]
theorem rangeI_succ (lo : Int) (n : Nat) : rangeI lo (n + 1) = rangeI lo n ++ [lo + (n : Int)] := by simp [rangeI, List.range_succ]

def RowsAre (w : World) (base : Nat) (ob : Option Nat) (vs : List Value) (R : List (List Int)) : Prop :=
  vs.length = R.length ∧ ∀ (j : Nat) (pt : List Int), R[j]? = some pt → ∃ rv, vs[j]? = some rv ∧ w.ownsRow base 3 1 rv pt.length (pt.map (Value.int .i64)) ∧ (rv.ownBlock = none ∨ rv.ownBlock ≠ ob)

theorem RowsAre.kept {w w' : World} {base : Nat} {ob row : Option Nat} {vs : List Value} {R : List (List Int)} (h : RowsAre w base ob vs R) (hg : w.grownBy w' row) (hr : row = ob ∨ ∀ k, row = some k → k < base) : RowsAre w' base ob vs R := by
  refine ⟨h.1, fun j pt hj => ?_⟩
  obtain ⟨rv, h1, h2, h3⟩ := h.2 j pt hj
  refine ⟨rv, h1, h2.kept hg ?_, h3⟩
  rcases hr with rfl | hr
  · exact h3
  · cases hb : rv.ownBlock with
    | none => exact .inl rfl
    | some g =>
      refine .inr fun e => ?_
      have := (h2.lt g hb).1
      have := hr g e.symm
      omega

def go1Fn (H : Nat) : Value := .func (.func 39) #[] #[.pointer (some ⟨H + 3, 0, none⟩), .pointer (some ⟨H, 0, none⟩), .pointer (some ⟨H + 1, 0, none⟩), .pointer (some ⟨H + 4, 0, none⟩)]

structure GoSt (w0 : World) (H : Nat) (w : World) (sv cv : Value) (n : Nat) (xs : List Int) (R : List (List Int)) : Prop where
  le : w0.heap.size ≤ H
  grown : w0.grownBy w none
  size : H + 5 ≤ w.heap.size
  f0 : w.cell? ⟨H, 0, none⟩ = some sv
  f1 : w.cell? ⟨H, 1, none⟩ = some cv
  xb : w.heap[H + 2]? = some (.cells (xs.map (Value.int .i64)).toArray 3 (0, 0))
  len : xs.length = n
  xc : w.cell? ⟨H + 3, 0, none⟩ = some (.slice (some ⟨H + 2, 0, none⟩) n n)
  gc : w.cell? ⟨H + 4, 0, none⟩ = some (go1Fn H)
  out : ∃ ov vs, w.heap[H + 1]? = some (.cells #[ov] 38 (0, 0)) ∧ w.ownsRow (H + 5) 22 1 ov R.length vs ∧ RowsAre w (H + 5) ov.ownBlock vs R

variable {w0 w w' : World} {H : Nat} {sv cv : Value} {n : Nat} {xs xs' : List Int} {R : List (List Int)}

/-- A write into the numbers' block alone. -/
theorem GoSt.turn (h : GoSt w0 H w sv cv n xs R) (hg : w.grownBy w' (some (H + 2))) (hb : w'.heap[H + 2]? = some (.cells (xs'.map (Value.int .i64)).toArray 3 (0, 0))) (hl : xs'.length = n) : GoSt w0 H w' sv cv n xs' R := by
  have hl0 := h.le
  have hs := h.size
  obtain ⟨ov, vs, h1, h2, h3⟩ := h.out
  refine ⟨h.le, grown_own h.grown hg (fun k hk => by cases hk; omega), Nat.le_trans h.size hg.size, hg.cell h.f0 (by simp), hg.cell h.f1 (by simp), hb, hl, hg.cell h.xc (by simp), hg.cell h.gc (by simp), ov, vs, ?_, ?_, ?_⟩
  · rw [hg.block (H + 1) (by omega) (by simp)]; exact h1
  · refine h2.kept hg ?_
    cases hb : ov.ownBlock with
    | none => exact .inl rfl
    | some g =>
      refine .inr fun e => ?_
      have := (h2.lt g hb).1
      cases e
      omega
  · exact h3.kept hg (.inr fun k hk => by cases hk; omega)

theorem GoSt.kept (h : GoSt w0 H w sv cv n xs R) (hg : w.grownBy w' none) : GoSt w0 H w' sv cv n xs R := by
  have hs := h.size
  refine h.turn (grownBy_any _ hg) ?_ h.len
  rw [hg.block (H + 2) (by omega) (by simp)]
  exact h.xb

/-- A number is set. -/
theorem GoSt.set (h : GoSt w0 H w sv cv n xs R) (i : Nat) (v : Int) : GoSt w0 H (w.setCell ⟨H + 2, i, none⟩ (.int .i64 v)) sv cv n (xs.set i v) R := by
  refine h.turn ⟨rfl, rfl, rfl, by simp [World.setCell], fun k _ hk => Below.heap_setCell w ⟨H + 2, i, none⟩ _ k (by simpa using hk)⟩ ?_ (by simp [h.len])
  show (w.heap.modify (H + 2) _)[H + 2]? = _
  rw [Array.getElem?_modify, if_pos rfl, h.xb]
  simp [List.map_set]

/-- A point is added. -/
theorem GoSt.push {w1 w2 w3 : World} {ov v' rv : Value} {vs : List Value} {pt : List Int} {g cap : Nat} (h : GoSt w0 H w sv cv n xs R) (h2 : w.ownsRow (H + 5) 22 1 ov R.length vs) (h3 : RowsAre w (H + 5) ov.ownBlock vs R)
    (k1 : w.grownBy w1 none) (hrv : w1.ownsRow (H + 5) 3 1 rv pt.length (pt.map (Value.int .i64))) (hrn : ∀ b, rv.ownBlock = some b → w.heap.size ≤ b) (k2 : w1.grownBy w2 ov.ownBlock) (ho : w2.ownsRow (H + 5) 22 1 v' (R.length + 1) (vs ++ [rv]))
    (hv : v' = .slice (some ⟨g, 0, none⟩) (R.length + 1) cap) (hg : ov.ownBlock = some g ∨ w1.heap.size ≤ g) (k3 : w2.grownBy w3 (some (H + 1))) (h4 : w3.heap[H + 1]? = some (.cells #[v'] 38 (0, 0))) : GoSt w0 H w3 sv cv n xs (R ++ [pt]) := by
  have hl0 := h.le
  have hs := h.size
  have hob : ∀ k, ov.ownBlock = some k → H + 5 ≤ k ∧ k < w.heap.size := h2.lt
  have hne : ∀ j, j < H + 5 → some j ≠ ov.ownBlock := fun j hj e => by have := hob j e.symm; omega
  have cellw : ∀ {a : Addr} {v : Value}, w.cell? a = some v → a.block < H + 5 → a.block ≠ H + 1 → w3.cell? a = some v := fun hc hlt hn =>
    k3.cell (k2.cell (k1.cell hc (by simp)) (hne _ hlt)) (by simpa using hn)
  have hgv : v'.ownBlock = some g := by rw [hv]; rfl
  refine ⟨h.le, ?_, Nat.le_trans h.size (Nat.le_trans k1.size (Nat.le_trans k2.size k3.size)), cellw h.f0 (by simp) (by simp), cellw h.f1 (by simp) (by simp), ?_, h.len, cellw h.xc (by simp) (by simp), cellw h.gc (by simp) (by simp), v', vs ++ [rv], h4, ?_, ?_⟩
  · refine grown_own (grown_own (grownBy_trans h.grown k1) k2 (fun k hk => ?_)) k3 (fun k hk => by cases hk; omega)
    have := hob k hk
    omega
  · rw [k3.block (H + 2) (by have := k1.size; have := k2.size; omega) (by simp), k2.block (H + 2) (by have := k1.size; omega) (hne _ (by omega)), k1.block (H + 2) (by omega) (by simp)]
    exact h.xb
  · rw [List.length_append]
    refine ho.kept k3 (.inr fun e => ?_)
    rw [hgv] at e
    have := (ho.lt g hgv).1
    cases e
    omega
  · have hk : ∀ (r : Value) (p : List Int), w1.ownsRow (H + 5) 3 1 r p.length (p.map (Value.int .i64)) → (r.ownBlock = none ∨ r.ownBlock ≠ ov.ownBlock) → w3.ownsRow (H + 5) 3 1 r p.length (p.map (Value.int .i64)) := fun r p hr hn => by
      refine (hr.kept k2 hn).kept k3 ?_
      cases hb : r.ownBlock with
      | none => exact .inl rfl
      | some b =>
        refine .inr fun e => ?_
        have := (hr.lt b hb).1
        cases e
        omega
    refine ⟨by simp [h3.1], fun j p hj => ?_⟩
    by_cases hj' : j < R.length
    · rw [List.getElem?_append_left hj'] at hj
      obtain ⟨r, r1, r2, r3⟩ := h3.2 j p hj
      refine ⟨r, by rw [List.getElem?_append_left (by rw [h3.1]; exact hj')]; exact r1, hk r p (owns_kept r2 k1) r3, ?_⟩
      cases hb : r.ownBlock with
      | none => exact .inl rfl
      | some b =>
        refine .inr fun e => ?_
        rw [hgv] at e
        have e := Option.some.inj e
        rcases hg with hg | hg
        · rcases r3 with r3 | r3
          · rw [hb] at r3; cases r3
          · exact r3 (by rw [hb, hg, e])
        · have := (r2.lt b hb).2
          have := k1.size
          omega
    · have hj2 : j = R.length := by
        have := (List.getElem?_eq_some_iff.1 hj).1
        simp at this
        omega
      subst hj2
      simp at hj
      subst hj
      refine ⟨rv, by rw [← h3.1]; simp, hk rv pt hrv ?_, ?_⟩
      · cases hb : rv.ownBlock with
        | none => exact .inl rfl
        | some b =>
          refine .inr fun e => ?_
          have := hrn b hb
          have := hob b e.symm
          omega
      · cases hb : rv.ownBlock with
        | none => exact .inl rfl
        | some b =>
          refine .inr fun e => ?_
          rw [hgv] at e
          have e := Option.some.inj e
          have h5 := hrn b hb
          have h6 := (hrv.lt b hb).2
          rcases hg with hg | hg
          · have := hob g hg
            omega
          · omega

end Go.Proofs.Ytjgddagladmgoaa
