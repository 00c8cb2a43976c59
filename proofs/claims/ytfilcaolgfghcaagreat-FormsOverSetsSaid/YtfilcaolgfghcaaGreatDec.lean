/-
 each's conditions, by how many variables they hang on.
-/
import Derived.Test.YtfilcaolgfghcaaGreatFrom
namespace Go.Proofs.YtfilcaolgfghcaaGreat
open Go.RowKit

variable {wE W wp w w1 w2 : World} {V V2 Dm Db P n : Nat} {R : List RowD} {vs : List Value} {gs : Nat → List (RowD × Value)}

theorem Framed.owns {base : Nat} {e : TypeId} {size k : Nat} {v : Value} {xs : List Value} (h : Framed wE W V V2) (ho : wE.ownsRow base e size v k xs) (hb : V2 ≤ base) : W.ownsRow base e size v k xs := by
  obtain ⟨h1, h2⟩ := ho
  refine ⟨h1, ?_⟩
  rcases h2 with h2 | ⟨g, cap, cur, hv, hb', hg, r⟩
  · exact .inl h2
  · exact .inr ⟨g, cap, cur, hv, hb', h.heap hg (by omega), r⟩

structure DecSt (wp w : World) (Dm Db P n : Nat) (R : List RowD) (vs : List Value) (gs : Nat → List (RowD × Value)) : Prop where
  arr : w.heap[Dm]? = some (.cells vs.toArray 75 (0, 0))
  var : w.heap[Db]? = some (.cells #[.slice (some ⟨Dm, 0, none⟩) (n + 1) (n + 1)] 119 (0, 0))
  len : vs.length = n + 1
  own : ∀ (m : Nat) (v : Value), vs[m]? = some v → w.ownsRow P 79 2 v (gs m).length ((gs m).flatMap rowCells)
  apart : ∀ (m m' : Nat) (v v' : Value), m ≠ m' → vs[m]? = some v → vs[m']? = some v' → v.ownBlock = none ∨ v.ownBlock ≠ v'.ownBlock
  rows : ∀ m, (gs m).map (·.1) = rowsLen R m
  coefs : ∀ m q, q ∈ gs m → IntsAt wp q.2 q.1.2
  lt : Dm < P ∧ Db < P ∧ P ≤ w.heap.size

theorem DecSt.kept (h : DecSt wp w Dm Db P n R vs gs) (hg : w.grownBy w1 none) : DecSt wp w1 Dm Db P n R vs gs := by
  obtain ⟨l1, l2, l3⟩ := h.lt
  exact ⟨heap_keep h.arr hg (by simp), heap_keep h.var hg (by simp), h.len, fun m v hv => owns_kept (h.own m v hv) hg, h.apart, h.rows, h.coefs, l1, l2, Nat.le_trans l3 hg.size⟩

theorem rowsLen_snoc (R : List RowD) (r : RowD) (m : Nat) : rowsLen (R ++ [r]) m = if rowLen r.2 = m then rowsLen R m ++ [r] else rowsLen R m := by
  unfold rowsLen
  rw [List.filter_append]
  by_cases h : rowLen r.2 = m <;> simp [h]

theorem DecSt.push {r : RowD} {cv v : Value} {m g cap : Nat} {o : Obj} (h : DecSt wp w Dm Db P n R vs gs) (hm : m = rowLen r.2) (hv : vs[m]? = some v) (hc : IntsAt wp cv r.2)
    (k1 : w.grownBy w1 none) (k2 : (w1.alloc o).grownBy w2 v.ownBlock) (hown : w2.ownsRow P 79 2 (.slice (some ⟨g, 0, none⟩) ((gs m).length + 1) cap) ((gs m).length + 1) ((gs m).flatMap rowCells ++ rowCells (r, cv))) (hg : v.ownBlock = some g ∨ w1.heap.size ≤ g) :
    DecSt wp (w2.setCell ⟨Dm, m, none⟩ (.slice (some ⟨g, 0, none⟩) ((gs m).length + 1) cap)) Dm Db P n (R ++ [r]) (vs.set m (.slice (some ⟨g, 0, none⟩) ((gs m).length + 1) cap)) (fun j => if j = m then gs m ++ [(r, cv)] else gs j) := by
  obtain ⟨l1, l2, l3⟩ := h.lt
  have hvb : ∀ k, v.ownBlock = some k → P ≤ k ∧ k < w.heap.size := (h.own m v hv).lt
  have h1 := (h.kept k1).kept (World.grownBy_alloc w1 o none)
  have k3 := grown_set w2 Dm m (.slice (some ⟨g, 0, none⟩) ((gs m).length + 1) cap)
  have hml : m < vs.length := (List.getElem?_eq_some_iff.1 hv).1
  have hgP : P ≤ g := by
    rcases hg with hg | hg
    · exact (hvb g hg).1
    · have := k1.size; omega
  have arr2 := heap_keep h1.arr k2 (fun e => by have := hvb _ e; omega)
  have get : ∀ j u, (vs.set m (.slice (some ⟨g, 0, none⟩) ((gs m).length + 1) cap))[j]? = some u → (j = m ∧ u = .slice (some ⟨g, 0, none⟩) ((gs m).length + 1) cap) ∨ (j ≠ m ∧ vs[j]? = some u) := by
    intro j u hj
    by_cases e : j = m
    · subst e
      rw [List.getElem?_set_self hml] at hj
      exact .inl ⟨rfl, (Option.some.inj hj).symm⟩
    · rw [List.getElem?_set_ne (Ne.symm e)] at hj
      exact .inr ⟨e, hj⟩
  have other : ∀ j u, j ≠ m → vs[j]? = some u → u.ownBlock ≠ some g := by
    intro j u hj hu e
    rcases hg with hg | hg
    · rcases h.apart j m u v hj hu hv with h0 | h0
      · rw [h0] at e; cases e
      · exact h0 (by rw [e, hg])
    · have := ((h.own j u hu).lt g e).2
      have := k1.size
      omega
  refine ⟨?_, heap_keep (heap_keep h1.var k2 (fun e => by have := hvb _ e; omega)) k3 (by
      intro e
      have e : Dm = Db := Option.some.inj e
      have ha := h.arr
      rw [e, h.var] at ha
      simp at ha), by simp [h.len], fun j u hj => ?_, fun j j' u u' hjj hj hj' => ?_, fun j => ?_, fun j q hq => ?_, l1, l2, ?_⟩
  · show (w2.heap.modify Dm _)[Dm]? = _
    rw [Array.getElem?_modify, if_pos rfl, arr2]
    simp
  · rcases get j u hj with ⟨rfl, rfl⟩ | ⟨hne, hu⟩
    · simp only [if_true, List.length_append, List.length_singleton, List.flatMap_append, List.flatMap_cons, List.flatMap_nil, List.append_nil]
      refine hown.kept k3 (.inr fun e => ?_)
      have e : g = Dm := Option.some.inj e
      omega
    · simp only [if_neg hne]
      refine ((h1.own j u hu).kept k2 ?_).kept k3 ?_
      · exact h.apart j m u v hne hu hv
      · cases hb : u.ownBlock with
        | none => exact .inl rfl
        | some b =>
          refine .inr fun e => ?_
          have := ((h.own j u hu).lt b hb).1
          have e : b = Dm := Option.some.inj e
          omega
  · rcases get j u hj with ⟨rfl, rfl⟩ | ⟨hne, hu⟩
    · rcases get j' u' hj' with ⟨rfl, rfl⟩ | ⟨hne', hu'⟩
      · exact absurd rfl hjj
      · exact .inr fun e => other j' u' hne' hu' e.symm
    · rcases get j' u' hj' with ⟨rfl, rfl⟩ | ⟨hne', hu'⟩
      · exact .inr fun e => other j u hne hu e
      · exact h.apart j j' u u' hjj hu hu'
  · rw [rowsLen_snoc]
    by_cases e : j = m
    · rw [if_pos e, if_pos (show rowLen r.2 = j by omega), List.map_append, ← h.rows j, e]
      rfl
    · rw [if_neg e, if_neg (show ¬ rowLen r.2 = j by omega)]
      exact h.rows j
  · by_cases e : j = m
    · simp only [if_pos e, List.mem_append, List.mem_singleton] at hq
      rcases hq with hq | rfl
      · exact h.coefs m q hq
      · exact hc
    · simp only [if_neg e] at hq
      exact h.coefs j q hq
  · have := k1.size
    have := k2.size
    have := k3.size
    simp at *
    omega

/-- The conditions, read later. -/
theorem DecSt.read (h : DecSt wp wE Dm Db P n R vs gs) (hF : Framed wE W V V2) (hP : V2 ≤ Dm) (hD : V2 ≤ P) (hpre : wp.grownBy W none) (hR : R.length ≤ 1000000) (m : Nat) (hm : m ≤ n) :
    ∃ v, W.cell? ⟨Dm, m, none⟩ = some v ∧ RowLAt W v (rowsLen R m) := by
  have hml : m < vs.length := by rw [h.len]; omega
  have hv := List.getElem?_eq_getElem hml
  have hown := hF.owns (h.own m _ hv) hD
  have harr := hF.heap h.arr (by omega)
  refine ⟨vs[m], by simp [World.cell?, harr, hml], ?_⟩
  generalize vs[m] = v at *
  have hrows := h.rows m
  have hlen : (gs m).length = (rowsLen R m).length := by rw [← hrows, List.length_map]
  obtain ⟨p, cap, hv'⟩ := own_form hown
  have hle : (rowsLen R m).length ≤ 1000000 := Nat.le_trans (List.length_filter_le _ _) hR
  refine ⟨p, cap, by rw [← hlen]; exact hv', hle, fun j r hj => ?_⟩
  rw [← hrows, List.getElem?_map, Option.map_eq_some_iff] at hj
  obtain ⟨q, hq, rfl⟩ := hj
  obtain ⟨b, c1, e1, _, k1⟩ := own_cell hown (flat_get (k := 2) (fun _ => rfl) hq (i := 0) (v := .int .i64 q.1.1) rfl)
  obtain ⟨b2, c2, e2, _, k2⟩ := own_cell hown (flat_get (k := 2) (fun _ => rfl) hq (i := 1) (v := q.2) rfl)
  rw [hv'] at e1 e2
  obtain ⟨rfl, _, _⟩ := Value.slice.inj e1
  obtain ⟨ee, _, _⟩ := Value.slice.inj e2
  cases ee
  exact ⟨b, 0, q.2, rfl, by simpa using k1, by simpa using k2, (h.coefs m q (List.mem_of_getElem? hq)).kept hpre⟩


theorem Tryz.infoRows : (Tryz.prog.info? 75).map (fun i => (i.zero, i.size, i.bytes)) = some (some (.slice none 0 0), 1, 24) := by kernel_rfl

def nils (n : Nat) : List Value := List.replicate n (.slice none 0 0)
theorem made_nils (n : Nat) : madeCells #[Value.slice none 0 0] n = (nils n).toArray := by
  apply Array.ext
  · simp [madeCells, nils]
  · intro i h1 h2
    simp [madeCells, nils, Nat.mod_one]

/-- make([][]row, n, n). -/
theorem run_make_nils (n : Nat) (hn : n ≤ 1000) (W : World) : (Instr.makeSlice 119 (.int .i64 n) (.int .i64 n)).run Tryz.prog W = .ok (.slice (some ⟨W.heap.size, 0, none⟩) n n) (W.alloc (.cells (nils n).toArray 75)) := by
  obtain ⟨i0, hi, hz0, hz1, hz2⟩ := info_parts Tryz.infoRows
  have h := run_make (P := Tryz.prog) W 119 75 i0 (.slice none 0 0) Tryz.underlying119 hi hz0 .i64 .i64 n n (by omega) (Int.le_refl _) (by rw [hz2]; omega) (by omega)
  rw [hz1] at h
  simp only [Int.toNat_natCast, Nat.mul_one] at h
  rw [h]
  show Result.ok _ (W.alloc (.cells (madeCells #[Value.slice none 0 0] n) _)) = _
  rw [made_nils]

/-- What the question for an empty box leaves: the space's box and the visit's. -/
def EachBoxes (w w1 : World) (a b f : Value) : Prop :=
  w.grownBy w1 none ∧ w.heap.size + 2 ≤ w1.heap.size ∧ w1.heap[w.heap.size]? = some (.cells #[a, b] 77 (0, 0)) ∧ w1.heap[w.heap.size + 1]? = some (.cells #[f] 61 (0, 0))
theorem each_boxes {w w1 : World} {a b f : Value} (h : ((w.alloc (.cells #[a, b] 77)).alloc (.cells #[f] 61)).grownBy w1 none) : EachBoxes w w1 a b f := by
  have h1 : ((w.alloc (.cells #[a, b] 77)).alloc (.cells #[f] 61)).heap[w.heap.size]? = some (.cells #[a, b] 77 (0, 0)) := by
    show ((w.heap.push _).push _)[w.heap.size]? = _
    simp only [Array.getElem?_push, Array.size_push]
    rw [if_neg (by simp), if_pos trivial]
  have h2 : ((w.alloc (.cells #[a, b] 77)).alloc (.cells #[f] 61)).heap[w.heap.size + 1]? = some (.cells #[f] 61 (0, 0)) := by
    show ((w.heap.push _).push _)[w.heap.size + 1]? = _
    simp only [Array.getElem?_push, Array.size_push]
    rw [if_pos trivial]
  have hs := h.size
  simp at hs
  exact ⟨grownBy_trans (World.grownBy_alloc _ _ _) (grownBy_trans (World.grownBy_alloc _ _ _) h), by omega, heap_keep h1 h (by simp), heap_keep h2 h (by simp)⟩

theorem EachBoxes.own {w w1 w2 : World} {a b f : Value} {r : Option Nat} (h : EachBoxes w w1 a b f) (hg : w1.grownBy w2 r) (hr : ∀ k, r = some k → w.heap.size + 2 ≤ k) : EachBoxes w w2 a b f := by
  obtain ⟨h1, h2, h3, h4⟩ := h
  exact ⟨grown_own h1 hg (fun k hk => by have := hr k hk; omega), Nat.le_trans h2 hg.size, heap_keep h3 hg (fun e => by have := hr _ e; omega), heap_keep h4 hg (fun e => by have := hr _ e; omega)⟩

theorem DecSt.start (wp w1 : World) (n : Nat) :
    DecSt wp ((w1.alloc (.cells (nils (n + 1)).toArray 75)).alloc (.cells #[.slice (some ⟨w1.heap.size, 0, none⟩) (n + 1) (n + 1)] 119)) w1.heap.size (w1.heap.size + 1) (w1.heap.size + 1 + 1) n [] (nils (n + 1)) (fun _ => []) := by
  have nil : ∀ (m : Nat) (v : Value), (nils (n + 1))[m]? = some v → v = .slice none 0 0 := fun m v hv => List.eq_of_mem_replicate (List.mem_of_getElem? hv)
  refine ⟨?_, ?_, by simp [nils], fun m v hv => ?_, fun m m' v v' _ hv _ => ?_, fun m => rfl, fun m q hq => (by cases hq), ⟨by omega, by omega, by simp⟩⟩
  · show ((w1.heap.push _).push _)[w1.heap.size]? = _
    simp only [Array.getElem?_push, Array.size_push]
    rw [if_neg (by simp), if_pos trivial]
  · show ((w1.heap.push _).push _)[w1.heap.size + 1]? = _
    simp only [Array.getElem?_push, Array.size_push]
    rw [if_pos trivial]
  · rw [nil m v hv]
    exact World.ownsRow_nil _ _ _ _
  · rw [nil m v hv]
    exact .inl rfl

theorem fromMem {w wr : World} {S : List SideD × List CondD} {sv kv fv : Value} (hB : EachBoxes w wr sv kv fv) (hD : DecSt wp wr Dm Db P S.1.length (rowsOf S) vs gs) (hs : SidesAt wp sv S.1) (hp : wp.grownBy w none) (hpV : wp.heap.size ≤ V) (hV2 : V2 ≤ w.heap.size) (hDm : w.heap.size ≤ Dm) (hDb : w.heap.size ≤ Db) (hR : (rowsOf S).length ≤ 1000000) :
    ∀ W, Framed (wr.alloc (.cells #[fromFn w.heap.size Db wr.heap.size] 61)) W V V2 → FromMem W w.heap.size Db Dm wr.heap.size S sv fv := by
  intro W hF
  obtain ⟨b1, b2, b3, b4⟩ := hB
  have ha := World.grownBy_alloc wr (.cells #[fromFn w.heap.size Db wr.heap.size] 61) none
  obtain ⟨l1, l2, l3⟩ := hD.lt
  have hpre : wp.grownBy W none := hF.pre (grownBy_trans hp (grownBy_trans b1 ha)) hpV
  have c0 := hF.heap (heap_keep b3 ha (by simp)) (by omega)
  have c1 := hF.heap (heap_keep b4 ha (by simp)) (by omega)
  have c2 := hF.heap (hD.kept ha).var (by omega)
  have c3 : W.heap[wr.heap.size]? = some (.cells #[fromFn w.heap.size Db wr.heap.size] 61 (0, 0)) := hF.heap (heap_alloc_new _ _) (by omega)
  exact ⟨by simp [World.cell?, c0], by simp [World.cell?, c1], by simp [World.cell?, c2], by simp [World.cell?, c3], hs.kept hpre, fun m hm => (hD.kept ha).read hF (by omega) (by omega) hpre hR m hm⟩

theorem run_make_room (n : Nat) (hn : n ≤ 1000) (W : World) : (Instr.makeSlice 22 (.int .i64 0) (.int .i64 n)).run Tryz.prog W = .ok (.slice (some ⟨W.heap.size, 0, none⟩) 0 n) (W.alloc (.cells (zeros n) 3)) := by
  obtain ⟨i0, hi, hz0, hz1, hz2⟩ := info_parts Tryz.infoInt
  have h := run_make (P := Tryz.prog) W 22 3 i0 (.int .i64 0) Tryz.underlying22 hi hz0 .i64 .i64 0 n (by omega) (by omega) (by rw [hz2]; omega) (by omega)
  rw [hz1] at h
  simp only [Int.toNat_natCast, Nat.mul_one] at h
  rw [h]
  show Result.ok _ (W.alloc (.cells (madeCells #[Value.int .i64 0] n) _)) = _
  rw [made_zeros]
  rfl

theorem fromStart {wE : World} {I : List (List Int) → World → Prop} (hV2 : V2 ≤ wE.heap.size) (hI : Steady wE.heap.size I) (h0 : I [] wE) (n : Nat) : FromSt wE (wE.alloc (.cells (zeros n) 3)) V V2 wE.heap.size n I [] (List.replicate n 0) :=
  ⟨(Framed.refl _ _ _).grown (World.grownBy_alloc _ _ _), Nat.le_refl _, hV2, heap_alloc_new _ _, by simp, hI _ _ _ h0 (World.grownBy_alloc _ _ _)⟩

theorem Framed.front {w : World} (h : Framed wE W V V2) (hg : w.grownBy wE none) : Framed w W V V2 :=
  ⟨h.os.trans hg.os, h.tape.trans hg.tape, h.output.trans hg.output, Nat.le_trans hg.size h.size, fun k hk hn => (h.block k (Nat.lt_of_lt_of_le hk hg.size) hn).trans (hg.block k hk (by simp))⟩

/-- A statement that is the last of its sequence, as one that is not. -/
theorem wp_last {P : Program} {s : Code} {Q : Exit → Act → World → Prop} {a : Act} {w : World} (h : ∀ K : Act → World → Prop, (∀ a' w', Q .normal a' w' → K a' w') → s.wp P (Exit.then K Q) a w) : s.wp P Q a w := by
  refine wp_mono (h (fun a w => Q .normal a w) (fun _ _ q => q)) ?_
  intro e a' w' hq
  cases e <;> exact hq

theorem dec_step {wr w3 w4 : World} {L : List RowD} {k m g ncap : Nat} {num : Int} {cs : List Int} {cv v : Value} {o : Obj} (HTk : Hid (L.take (k + 1) = L.take k ++ [(num, cs)])) (HD : Hid (DecSt wp wr Dm Db P n (L.take k) vs gs)) (HM : Hid (rowLen cs = m)) (HV : Hid (vs[m]? = some v)) (HIc : Hid (IntsAt wp cv cs))
    (G3 : Hid (wr.grownBy w3 none)) (G4 : Hid ((w3.alloc o).grownBy w4 v.ownBlock)) (O4 : Hid (w4.ownsRow P 79 2 (.slice (some ⟨g, 0, none⟩) ((gs m).length + 1) ncap) ((gs m).length + 1) ((gs m).flatMap rowCells ++ rowCells ((num, cs), cv)))) (A4 : Hid (v.ownBlock = some g ∨ g = w3.heap.size + 1)) :
    Hid (DecSt wp (w4.setCell ⟨Dm, m, none⟩ (.slice (some ⟨g, 0, none⟩) ((gs m).length + 1) ncap)) Dm Db P n (L.take (k + 1)) (vs.set m (.slice (some ⟨g, 0, none⟩) ((gs m).length + 1) ncap)) (fun j => if j = m then gs m ++ [((num, cs), cv)] else gs j)) := by
  show DecSt _ _ _ _ _ _ _ _ _
  rw [HTk.out]
  exact HD.out.push (w1 := w3) HM.out.symm HV.out HIc.out G3.out G4.out O4.out (by rcases A4.out with h | h; exact .inl h; exact .inr (by omega))

theorem box_step {w wr w3 w4 : World} {L : List RowD} {m : Nat} {a b f v x : Value} {o : Obj} (HB : Hid (EachBoxes w wr a b f)) (HD : Hid (DecSt wp wr Dm Db P n L vs gs)) (HV : Hid (vs[m]? = some v)) (G3 : Hid (wr.grownBy w3 none)) (G4 : Hid ((w3.alloc o).grownBy w4 v.ownBlock)) (hD : w.heap.size + 2 ≤ Dm) :
    Hid (EachBoxes w (w4.setCell ⟨Dm, m, none⟩ x) a b f) := by
  have hl := HD.out.lt.1
  exact (((HB.out.own G3.out (fun k hk => by cases hk)).own (World.grownBy_alloc w3 _ none) (fun k hk => by cases hk)).own G4.out (fun k hk => by have := ((HD.out.own m _ HV.out).lt k hk).1; omega)).own (grown_set _ Dm m _) (fun k hk => by cases hk; omega)

end Go.Proofs.YtfilcaolgfghcaaGreat
