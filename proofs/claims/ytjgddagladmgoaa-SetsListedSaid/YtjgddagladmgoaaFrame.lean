/-
 The state of each's recursion.
-/
import Derived.Test.YtjgddagladmgoaaPrune
import Derived.Deep.RegionLaw
namespace Go.Proofs.Ytjgddagladmgoaa
open Go.RowKit

/-- What the visits may change of the memory that was there: blocks from V on, below V2. -/
structure Framed (wE W : World) (V V2 : Nat) : Prop where
  os : W.os = wE.os
  tape : W.tape = wE.tape
  output : W.output = wE.output
  size : wE.heap.size ≤ W.heap.size
  block : ∀ k, k < wE.heap.size → ¬ (V ≤ k ∧ k < V2) → W.heap[k]? = wE.heap[k]?

variable {wE w W W' : World} {V V2 Bb n : Nat}

theorem Framed.refl (w : World) (V V2 : Nat) : Framed w w V V2 := ⟨rfl, rfl, rfl, Nat.le_refl _, fun _ _ _ => rfl⟩
theorem Framed.more {r : Option Nat} (h : Framed wE W V V2) (hg : W.grownBy W' r) (hr : ∀ k, r = some k → wE.heap.size ≤ k ∨ (V ≤ k ∧ k < V2)) : Framed wE W' V V2 := by
  refine ⟨hg.os.trans h.os, hg.tape.trans h.tape, hg.output.trans h.output, Nat.le_trans h.size hg.size, fun k hk hn => ?_⟩
  refine (hg.block k (Nat.lt_of_lt_of_le hk h.size) (fun e => ?_)).trans (h.block k hk hn)
  rcases hr k e.symm with h1 | h1
  · omega
  · exact hn h1
theorem Framed.grown (h : Framed wE W V V2) (hg : W.grownBy W' none) : Framed wE W' V V2 := h.more hg (fun k hk => by cases hk)
theorem Framed.heap {k : Nat} {o : Obj} (h : Framed wE W V V2) (ho : wE.heap[k]? = some o) (hn : ¬ (V ≤ k ∧ k < V2)) : W.heap[k]? = some o :=
  (h.block k (Array.getElem?_eq_some_iff.1 ho).1 hn).trans ho
theorem Framed.pre {w : World} (h : Framed wE W V V2) (hg : w.grownBy wE none) (hV : w.heap.size ≤ V) : w.grownBy W none :=
  ⟨h.os.trans hg.os, h.tape.trans hg.tape, h.output.trans hg.output, Nat.le_trans hg.size h.size, fun k hk _ => (h.block k (Nat.lt_of_lt_of_le hk hg.size) (by omega)).trans (hg.block k hk (by simp))⟩

def fromFn (H Db Fb : Nat) : Value := .func (.func 56) #[] #[.pointer (some ⟨Db, 0, none⟩), .pointer (some ⟨H, 0, none⟩), .pointer (some ⟨H + 1, 0, none⟩), .pointer (some ⟨Fb, 0, none⟩)]

/-- What the recursion reads. -/
structure FromMem (W : World) (H Db Dm Fb : Nat) (S : List SideD × List CondD) (sv fv : Value) : Prop where
  a0 : W.cell? ⟨H, 0, none⟩ = some sv
  v0 : W.cell? ⟨H + 1, 0, none⟩ = some fv
  d0 : W.cell? ⟨Db, 0, none⟩ = some (.slice (some ⟨Dm, 0, none⟩) (S.1.length + 1) (S.1.length + 1))
  f0 : W.cell? ⟨Fb, 0, none⟩ = some (fromFn H Db Fb)
  sides : SidesAt W sv S.1
  dec : ∀ m, m ≤ S.1.length → ∃ v, W.cell? ⟨Dm, m, none⟩ = some v ∧ RowLAt W v (rowsLen (rowsOf S) m)

/-- The numbers' block, and what the visits have made. -/
structure FromSt (wE w : World) (V V2 Bb n : Nat) (I : List (List Int) → World → Prop) (d : List (List Int)) (xs : List Int) : Prop where
  framed : Framed wE w V V2
  lo : wE.heap.size ≤ Bb
  hi : V2 ≤ wE.heap.size
  buf : w.heap[Bb]? = some (.cells (xs.map (Value.int .i64)).toArray 3 (0, 0))
  len : xs.length = n
  inv : I d w

/-- What the visits have made stays when the numbers turn. -/
def Steady (Bb : Nat) (I : List (List Int) → World → Prop) : Prop := ∀ d w w', I d w → w.grownBy w' (some Bb) → I d w'

variable {I : List (List Int) → World → Prop} {d : List (List Int)} {xs : List Int}

theorem FromSt.kept (h : FromSt wE w V V2 Bb n I d xs) (hI : Steady Bb I) (hg : w.grownBy W none) : FromSt wE W V V2 Bb n I d xs :=
  ⟨h.framed.grown hg, h.lo, h.hi, (hg.block _ (Array.getElem?_eq_some_iff.1 h.buf).1 (by simp)).trans h.buf, h.len, hI _ _ _ h.inv (grownBy_any _ hg)⟩
theorem FromSt.set (h : FromSt wE w V V2 Bb n I d xs) (hI : Steady Bb I) (i : Nat) (z : Int) : FromSt wE (w.setCell ⟨Bb, i, none⟩ (.int .i64 z)) V V2 Bb n I d (xs.set i z) := by
  have hg := grown_set w Bb i (.int .i64 z)
  have hl := h.lo
  refine ⟨h.framed.more hg (fun k hk => by cases hk; exact .inl hl), h.lo, h.hi, ?_, by simp [h.len], hI _ _ _ h.inv hg⟩
  show (w.heap.modify Bb _)[Bb]? = _
  rw [Array.getElem?_modify, if_pos rfl, h.buf]
  simp [List.map_set]
theorem FromSt.ints (h : FromSt wE w V V2 Bb n I d xs) (hn : n ≤ 1000) (cap i : Nat) (hi : i ≤ n) (hb : near (xs.take i)) : IntsAt w (.slice (some ⟨Bb, 0, none⟩) i cap) (xs.take i) := by
  have hl := h.len
  have e : (xs.take i).length = i := by simp; omega
  refine ⟨_, cap, by rw [e], by omega, fun j x hj => ⟨Bb, 0, rfl, by have := hb x (List.mem_of_getElem? hj); omega, ?_⟩⟩
  obtain ⟨hj1, rfl⟩ := List.getElem?_eq_some_iff.1 hj
  have hj2 : j < xs.length := by simp at hj1; omega
  simp [World.cell?, h.buf, hj2]
theorem FromSt.cell (h : FromSt wE w V V2 Bb n I d xs) {i : Nat} (hi : i < n) : (w.cell? ⟨Bb, i, none⟩).isSome = true := by
  have hl := h.len
  have hj2 : i < xs.length := by omega
  simp [World.cell?, h.buf, hj2]
theorem FromSt.free (h : FromSt wE w V V2 Bb n I d xs) (i : Nat) : w.frozen? ⟨Bb, i, none⟩ = false := by
  simp [World.frozen?, h.buf]

/-- What a call of the recursion leaves. -/
def FromPost (wE : World) (V V2 Bb n : Nat) (I : List (List Int) → World → Prop) (go : List (List Int) → Bool) (d ps : List (List Int)) (pre : List Int) (e : Ending) (w' : World) : Prop :=
  e = .returned (.bool (walkP go d ps).2) ∧ ∃ xs', FromSt wE w' V V2 Bb n I (walkP go d ps).1 xs' ∧ xs'.take pre.length = pre

theorem walk_stop {go : List (List Int) → Bool} {d dm : List (List Int)} {F : Int → List (List Int)} {lo : Int} {m cnt : Nat} (h : walkP go d ((rangeI lo m).flatMap F) = (dm, true)) (hm : m < cnt) (hs : (walkP go dm (F (lo + (m : Int)))).2 = false) :
    walkP go d ((rangeI lo cnt).flatMap F) = walkP go dm (F (lo + (m : Int))) := by
  obtain ⟨k, rfl⟩ : ∃ k, cnt = (m + 1) + k := ⟨cnt - (m + 1), by omega⟩
  rw [rangeI_add lo (m + 1) k, rangeI_succ, List.flatMap_append, List.flatMap_append, List.append_assoc, walkP_append, h]
  simp only [if_true, List.flatMap_cons, List.flatMap_nil, List.append_nil]
  rw [walkP_append, hs]
  simp
theorem walk_next {go : List (List Int) → Bool} {d dm : List (List Int)} {F : Int → List (List Int)} {lo : Int} {m : Nat} (h : walkP go d ((rangeI lo m).flatMap F) = (dm, true)) (hs : (walkP go dm (F (lo + (m : Int)))).2 = true) :
    walkP go d ((rangeI lo (m + 1)).flatMap F) = ((walkP go dm (F (lo + (m : Int)))).1, true) := by
  rw [rangeI_succ, List.flatMap_append, walkP_append, h]
  simp only [if_true, List.flatMap_cons, List.flatMap_nil, List.append_nil]
  rw [← hs]

end Go.Proofs.Ytjgddagladmgoaa
