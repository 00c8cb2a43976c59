/-
 each's conditions, by how many variables they hang on. A row as a form.
-/
import Derived.Deep.AppendLies
import Derived.Deep.RegionLaw
import Derived.Deep.DeepMust
import Derived.WalkSpells
import Derived.Test.YtgeklmigfhhpfaaGreatDoorQ09
import Derived.Test.YtgeklmigfhhpfaaGreatDoorQ11
import Derived.Test.YtgeklmigfhhpfaaGreatDoorQ13
namespace Go.Proofs.YtgeklmigfhhpfaaGreatDoor
open Go.RowKit
variable {wE W wp w w1 w2 : World} {V V2 Dm Db P n : Nat} {R : List RowD} {vs : List Value} {gs : Nat → List (RowD × Value)}
theorem Framed.owns {base : Nat} {e : TypeId} {size k : Nat} {v : Value} {xs : List Value} (h : Framed wE W V V2) (ho : wE.ownsRow base e size v k xs) (hb : V2 ≤ base) : W.ownsRow base e size v k xs := by
 obtain ⟨h1, h2⟩ := ho
 refine ⟨h1, ?_⟩
 rcases h2 with h2 | ⟨g, cap, cur, hv, hb', hg, r⟩
 · exact .inl h2
 · exact .inr ⟨g, cap, cur, hv, hb', h.heap hg (by omega), r⟩
structure DecSt (wp w : World) (Dm Db P n : Nat) (R : List RowD) (vs : List Value) (gs : Nat → List (RowD × Value)) : Prop where
 arr : w.heap[Dm]? = some (.cells vs.toArray 79 (0, 0))
 var : w.heap[Db]? = some (.cells #[.slice (some ⟨Dm, 0, none⟩) (n + 1) (n + 1)] 138 (0, 0))
 len : vs.length = n + 1
 own : ∀ (m : Nat) (v : Value), vs[m]? = some v → w.ownsRow P 86 2 v (gs m).length ((gs m).flatMap rowCells)
 apart : ∀ (m m' : Nat) (v v' : Value), m ≠ m' → vs[m]? = some v → vs[m']? = some v' → v.ownBlock = none ∨ v.ownBlock ≠ v'.ownBlock
 rows : ∀ m, (gs m).map (·.1) = rowsLen R m
 coefs : ∀ m q, q ∈ gs m → IntsAt wp q.2 q.1.2
 lt : Dm < P ∧ Db < P ∧ P ≤ w.heap.size
theorem DecSt.kept (h : DecSt wp w Dm Db P n R vs gs) (hg : w.grownBy w1 none) : DecSt wp w1 Dm Db P n R vs gs := by
 obtain ⟨l1, l2, l3⟩ := h.lt
 exact ⟨kH h.arr hg (by simp), kH h.var hg (by simp), h.len, fun m v hv => owns_kept (h.own m v hv) hg, h.apart, h.rows, h.coefs, l1, l2, Nat.le_trans l3 hg.size⟩
theorem rowsLen_snoc (R : List RowD) (r : RowD) (m : Nat) : rowsLen (R ++ [r]) m = if rowLen r.2 = m then rowsLen R m ++ [r] else rowsLen R m := by
 unfold rowsLen
 rw [List.filter_append]
 by_cases h : rowLen r.2 = m <;> simp [h]
theorem DecSt.push {r : RowD} {cv v : Value} {m g cap : Nat} {o : Obj} (h : DecSt wp w Dm Db P n R vs gs) (hm : m = rowLen r.2) (hv : vs[m]? = some v) (hc : IntsAt wp cv r.2)
  (k1 : w.grownBy w1 none) (k2 : (w1.alloc o).grownBy w2 v.ownBlock) (hown : w2.ownsRow P 86 2 (.slice (some ⟨g, 0, none⟩) ((gs m).length + 1) cap) ((gs m).length + 1) ((gs m).flatMap rowCells ++ rowCells (r, cv))) (hg : v.ownBlock = some g ∨ w1.heap.size ≤ g) :
  DecSt wp (w2.setCell ⟨Dm, m, none⟩ (.slice (some ⟨g, 0, none⟩) ((gs m).length + 1) cap)) Dm Db P n (R ++ [r]) (vs.set m (.slice (some ⟨g, 0, none⟩) ((gs m).length + 1) cap)) (fun j => if j = m then gs m ++ [(r, cv)] else gs j) := by
 obtain ⟨l1, l2, l3⟩ := h.lt
 have hvb : ∀ k, v.ownBlock = some k → P ≤ k ∧ k < w.heap.size := (h.own m v hv).lt
 have h1 := (h.kept k1).kept (gA w1 o none)
 have k3 := gS w2 Dm m (.slice (some ⟨g, 0, none⟩) ((gs m).length + 1) cap)
 have hml : m < vs.length := (List.getElem?_eq_some_iff.1 hv).1
 have hgP : P ≤ g := by
  rcases hg with hg | hg
  · exact (hvb g hg).1
  · have := k1.size; omega
 have arr2 := kH h1.arr k2 (fun e => by have := hvb _ e; omega)
 have get : ∀ j u, (vs.set m (.slice (some ⟨g, 0, none⟩) ((gs m).length + 1) cap))[j]? = some u → (j = m ∧ u = .slice (some ⟨g, 0, none⟩) ((gs m).length + 1) cap) ∨ (j ≠ m ∧ vs[j]? = some u) := by
  intro j u hj
  by_cases e : j = m
  · subst e
    rw [List.getElem?_set_self hml] at hj
    exact .inl ⟨rfl, (Option.some.inj hj).symm⟩
  · rw [List.getElem?_set_ne (Ne.symm e)] at hj
    exact .inr ⟨e, hj⟩
 have other : ∀ j u, j ≠ m → vs[j]? = some u → u.ownBlock ≠ some g := by
  intro j u hj hu e
  rcases hg with hg | hg
  · rcases h.apart j m u v hj hu hv with h0 | h0
    · rw [h0] at e; cases e
    · exact h0 (by rw [e, hg])
  · have := ((h.own j u hu).lt g e).2
    have := k1.size
    omega
 refine ⟨?_, kH (kH h1.var k2 (fun e => by have := hvb _ e; omega)) k3 (by
   intro e
   have e : Dm = Db := Option.some.inj e
   have ha := h.arr
   rw [e, h.var] at ha
   simp at ha), by simp [h.len], fun j u hj => ?_, fun j j' u u' hjj hj hj' => ?_, fun j => ?_, fun j q hq => ?_, l1, l2, ?_⟩
 · show (w2.heap.modify Dm _)[Dm]? = _
   rw [Array.getElem?_modify, if_pos rfl, arr2]
   simp
 · rcases get j u hj with ⟨rfl, rfl⟩ | ⟨hne, hu⟩
   · simp only [if_true, List.length_append, List.length_singleton, List.flatMap_append, List.flatMap_cons, List.flatMap_nil, List.append_nil]
     refine hown.kept k3 (.inr fun e => ?_)
     have e : g = Dm := Option.some.inj e
     omega
   · simp only [if_neg hne]
     refine ((h1.own j u hu).kept k2 ?_).kept k3 ?_
     · exact h.apart j m u v hne hu hv
     · cases hb : u.ownBlock with
       | none => exact .inl rfl
       | some b =>
         refine .inr fun e => ?_
         have := ((h.own j u hu).lt b hb).1
         have e : b = Dm := Option.some.inj e
         omega
 · rcases get j u hj with ⟨rfl, rfl⟩ | ⟨hne, hu⟩
   · rcases get j' u' hj' with ⟨rfl, rfl⟩ | ⟨hne', hu'⟩
     · exact absurd rfl hjj
     · exact .inr fun e => other j' u' hne' hu' e.symm
   · rcases get j' u' hj' with ⟨rfl, rfl⟩ | ⟨hne', hu'⟩
     · exact .inr fun e => other j u hne hu e
     · exact h.apart j j' u u' hjj hu hu'
 · rw [rowsLen_snoc]
   by_cases e : j = m
   · rw [if_pos e, if_pos (show rowLen r.2 = j by omega), List.map_append, ← h.rows j, e]
     rfl
   · rw [if_neg e, if_neg (show ¬ rowLen r.2 = j by omega)]
     exact h.rows j
 · by_cases e : j = m
   · simp only [if_pos e, List.mem_append, List.mem_singleton] at hq
     rcases hq with hq | rfl
     · exact h.coefs m q hq
     · exact hc
   · simp only [if_neg e] at hq
     exact h.coefs j q hq
 · have := k1.size
   have := k2.size
   have := k3.size
   simp at *
   omega
theorem DecSt.read (h : DecSt wp wE Dm Db P n R vs gs) (hF : Framed wE W V V2) (hP : V2 ≤ Dm) (hD : V2 ≤ P) (hpre : wp.grownBy W none) (hR : R.length ≤ 1000000) (m : Nat) (hm : m ≤ n) :
  ∃ v, W.cell? ⟨Dm, m, none⟩ = some v ∧ RowLAt W v (rowsLen R m) := by
 have hml : m < vs.length := by rw [h.len]; omega
 have hv := List.getElem?_eq_getElem hml
 have hown := hF.owns (h.own m _ hv) hD
 have harr := hF.heap h.arr (by omega)
 refine ⟨vs[m], by simp [World.cell?, harr, hml], ?_⟩
 generalize vs[m] = v at *
 have hrows := h.rows m
 have hlen : (gs m).length = (rowsLen R m).length := by rw [← hrows, List.length_map]
 obtain ⟨p, cap, hv'⟩ := own_form hown
 have hle : (rowsLen R m).length ≤ 1000000 := Nat.le_trans (List.length_filter_le _ _) hR
 refine ⟨p, cap, by rw [← hlen]; exact hv', hle, fun j r hj => ?_⟩
 rw [← hrows, List.getElem?_map, Option.map_eq_some_iff] at hj
 obtain ⟨q, hq, rfl⟩ := hj
 obtain ⟨b, c1, e1, _, k1⟩ := own_cell hown (flat_get (k := 2) (fun _ => rfl) hq (i := 0) (v := .int .i64 q.1.1) rfl)
 obtain ⟨b2, c2, e2, _, k2⟩ := own_cell hown (flat_get (k := 2) (fun _ => rfl) hq (i := 1) (v := q.2) rfl)
 rw [hv'] at e1 e2
 obtain ⟨rfl, _, _⟩ := Value.slice.inj e1
 obtain ⟨ee, _, _⟩ := Value.slice.inj e2
 cases ee
 exact ⟨b, 0, q.2, rfl, by simpa using k1, by simpa using k2, (h.coefs m q (List.mem_of_getElem? hq)).kept hpre⟩
theorem Tryz.infoRows : (Tryz.prog.info? 79).map (fun i => (i.zero, i.size, i.bytes)) = some (some (.slice none 0 0), 1, 24) := by kernel_rfl
def nils (n : Nat) : List Value := List.replicate n (.slice none 0 0)
theorem made_nils (n : Nat) : madeCells #[Value.slice none 0 0] n = (nils n).toArray := by
 apply Array.ext
 · simp [madeCells, nils]
 · intro i h1 h2
   simp [madeCells, nils, Nat.mod_one]
theorem run_make_nils (n : Nat) (hn : n ≤ 1000) (W : World) : (Instr.makeSlice 138 (.int .i64 n) (.int .i64 n)).run Tryz.prog W = .ok (.slice (some ⟨W.heap.size, 0, none⟩) n n) (W.alloc (.cells (nils n).toArray 79)) := by
 obtain ⟨i0, hi, hz0, hz1, hz2⟩ := info_parts Tryz.infoRows
 have h := run_make (P := Tryz.prog) W 138 79 i0 (.slice none 0 0) Tryz.underlying138 hi hz0 .i64 .i64 n n (by omega) (Int.le_refl _) (by rw [hz2]; omega) (by omega)
 rw [hz1] at h
 simp only [Int.toNat_natCast, Nat.mul_one] at h
 rw [h]
 show Result.ok _ (W.alloc (.cells (madeCells #[Value.slice none 0 0] n) _)) = _
 rw [made_nils]
def EachBoxes (w w1 : World) (a b f : Value) : Prop :=
 w.grownBy w1 none ∧ w.heap.size + 2 ≤ w1.heap.size ∧ w1.heap[w.heap.size]? = some (.cells #[a, b] 81 (0, 0)) ∧ w1.heap[w.heap.size + 1]? = some (.cells #[f] 60 (0, 0))
theorem each_boxes {w w1 : World} {a b f : Value} (h : ((w.alloc (.cells #[a, b] 81)).alloc (.cells #[f] 60)).grownBy w1 none) : EachBoxes w w1 a b f := by
 have h1 : ((w.alloc (.cells #[a, b] 81)).alloc (.cells #[f] 60)).heap[w.heap.size]? = some (.cells #[a, b] 81 (0, 0)) := by
  show ((w.heap.push _).push _)[w.heap.size]? = _
  simp only [Array.getElem?_push, Array.size_push]
  rw [if_neg (by simp), if_pos trivial]
 have h2 : ((w.alloc (.cells #[a, b] 81)).alloc (.cells #[f] 60)).heap[w.heap.size + 1]? = some (.cells #[f] 60 (0, 0)) := by
  show ((w.heap.push _).push _)[w.heap.size + 1]? = _
  simp only [Array.getElem?_push, Array.size_push]
  rw [if_pos trivial]
 have hs := h.size
 simp at hs
 exact ⟨gT (gA _ _ _) (gT (gA _ _ _) h), by omega, kH h1 h (by simp), kH h2 h (by simp)⟩
theorem EachBoxes.own {w w1 w2 : World} {a b f : Value} {r : Option Nat} (h : EachBoxes w w1 a b f) (hg : w1.grownBy w2 r) (hr : ∀ k, r = some k → w.heap.size + 2 ≤ k) : EachBoxes w w2 a b f := by
 obtain ⟨h1, h2, h3, h4⟩ := h
 exact ⟨gO h1 hg (fun k hk => by have := hr k hk; omega), Nat.le_trans h2 hg.size, kH h3 hg (fun e => by have := hr _ e; omega), kH h4 hg (fun e => by have := hr _ e; omega)⟩
theorem DecSt.start (wp w1 : World) (n : Nat) :
  DecSt wp ((w1.alloc (.cells (nils (n + 1)).toArray 79)).alloc (.cells #[.slice (some ⟨w1.heap.size, 0, none⟩) (n + 1) (n + 1)] 138)) w1.heap.size (w1.heap.size + 1) (w1.heap.size + 1 + 1) n [] (nils (n + 1)) (fun _ => []) := by
 have nil : ∀ (m : Nat) (v : Value), (nils (n + 1))[m]? = some v → v = .slice none 0 0 := fun m v hv => List.eq_of_mem_replicate (List.mem_of_getElem? hv)
 refine ⟨?_, ?_, by simp [nils], fun m v hv => ?_, fun m m' v v' _ hv _ => ?_, fun m => rfl, fun m q hq => (by cases hq), ⟨by omega, by omega, by simp⟩⟩
 · show ((w1.heap.push _).push _)[w1.heap.size]? = _
   simp only [Array.getElem?_push, Array.size_push]
   rw [if_neg (by simp), if_pos trivial]
 · show ((w1.heap.push _).push _)[w1.heap.size + 1]? = _
   simp only [Array.getElem?_push, Array.size_push]
   rw [if_pos trivial]
 · rw [nil m v hv]
   exact World.ownsRow_nil _ _ _ _
 · rw [nil m v hv]
   exact .inl rfl
theorem fromMem {w wr : World} {S : List SideD × List CondD} {sv kv fv : Value} (hB : EachBoxes w wr sv kv fv) (hD : DecSt wp wr Dm Db P S.1.length (rowsOf S) vs gs) (hs : SidesAt wp sv S.1) (hp : wp.grownBy w none) (hpV : wp.heap.size ≤ V) (hV2 : V2 ≤ w.heap.size) (hDm : w.heap.size ≤ Dm) (hDb : w.heap.size ≤ Db) (hR : (rowsOf S).length ≤ 1000000) :
  ∀ W, Framed (wr.alloc (.cells #[fromFn w.heap.size Db wr.heap.size] 60)) W V V2 → FromMem W w.heap.size Db Dm wr.heap.size S sv fv := by
 intro W hF
 obtain ⟨b1, b2, b3, b4⟩ := hB
 have ha := gA wr (.cells #[fromFn w.heap.size Db wr.heap.size] 60) none
 obtain ⟨l1, l2, l3⟩ := hD.lt
 have hpre : wp.grownBy W none := hF.pre (gT hp (gT b1 ha)) hpV
 have c0 := hF.heap (kH b3 ha (by simp)) (by omega)
 have c1 := hF.heap (kH b4 ha (by simp)) (by omega)
 have c2 := hF.heap (hD.kept ha).var (by omega)
 have c3 : W.heap[wr.heap.size]? = some (.cells #[fromFn w.heap.size Db wr.heap.size] 60 (0, 0)) := hF.heap (heap_alloc_new _ _) (by omega)
 exact ⟨by simp [World.cell?, c0], by simp [World.cell?, c1], by simp [World.cell?, c2], by simp [World.cell?, c3], hs.kept hpre, fun m hm => (hD.kept ha).read hF (by omega) (by omega) hpre hR m hm⟩
theorem run_make_room (n : Nat) (hn : n ≤ 1000) (W : World) : (Instr.makeSlice 22 (.int .i64 0) (.int .i64 n)).run Tryz.prog W = .ok (.slice (some ⟨W.heap.size, 0, none⟩) 0 n) (W.alloc (.cells (zeros n) 3)) := by
 obtain ⟨i0, hi, hz0, hz1, hz2⟩ := info_parts Tryz.infoInt
 have h := run_make (P := Tryz.prog) W 22 3 i0 (.int .i64 0) Tryz.underlying22 hi hz0 .i64 .i64 0 n (by omega) (by omega) (by rw [hz2]; omega) (by omega)
 rw [hz1] at h
 simp only [Int.toNat_natCast, Nat.mul_one] at h
 rw [h]
 show Result.ok _ (W.alloc (.cells (madeCells #[Value.int .i64 0] n) _)) = _
 rw [made_zeros]
 rfl
theorem fromStart {wE : World} {I : List (List Int) → World → Prop} (hV2 : V2 ≤ wE.heap.size) (hI : Steady wE.heap.size I) (h0 : I [] wE) (n : Nat) : FromSt wE (wE.alloc (.cells (zeros n) 3)) V V2 wE.heap.size n I [] (List.replicate n 0) :=
 ⟨(Framed.refl _ _ _).grown (gA _ _ _), Nat.le_refl _, hV2, heap_alloc_new _ _, by simp, hI _ _ _ h0 (gA _ _ _)⟩
theorem Framed.front {w : World} (h : Framed wE W V V2) (hg : w.grownBy wE none) : Framed w W V V2 :=
 ⟨h.os.trans hg.os, h.tape.trans hg.tape, h.output.trans hg.output, Nat.le_trans hg.size h.size, fun k hk hn => (h.block k (Nat.lt_of_lt_of_le hk hg.size) hn).trans (hg.block k hk (by simp))⟩
theorem wp_last {P : Program} {s : Code} {Q : Exit → Act → World → Prop} {a : Act} {w : World} (h : ∀ K : Act → World → Prop, (∀ a' w', Q .normal a' w' → K a' w') → s.wp P (Exit.then K Q) a w) : s.wp P Q a w := by
 refine wp_mono (h (fun a w => Q .normal a w) (fun _ _ q => q)) ?_
 intro e a' w' hq
 cases e <;> exact hq
theorem dec_step {wr w3 w4 : World} {L : List RowD} {k m g ncap : Nat} {num : Int} {cs : List Int} {cv v : Value} {o : Obj} (HTk : Hid (L.take (k + 1) = L.take k ++ [(num, cs)])) (HD : Hid (DecSt wp wr Dm Db P n (L.take k) vs gs)) (HM : Hid (rowLen cs = m)) (HV : Hid (vs[m]? = some v)) (HIc : Hid (IntsAt wp cv cs))
  (G3 : Hid (wr.grownBy w3 none)) (G4 : Hid ((w3.alloc o).grownBy w4 v.ownBlock)) (O4 : Hid (w4.ownsRow P 86 2 (.slice (some ⟨g, 0, none⟩) ((gs m).length + 1) ncap) ((gs m).length + 1) ((gs m).flatMap rowCells ++ rowCells ((num, cs), cv)))) (A4 : Hid (v.ownBlock = some g ∨ g = w3.heap.size + 1)) :
  Hid (DecSt wp (w4.setCell ⟨Dm, m, none⟩ (.slice (some ⟨g, 0, none⟩) ((gs m).length + 1) ncap)) Dm Db P n (L.take (k + 1)) (vs.set m (.slice (some ⟨g, 0, none⟩) ((gs m).length + 1) ncap)) (fun j => if j = m then gs m ++ [((num, cs), cv)] else gs j)) := by
 show DecSt _ _ _ _ _ _ _ _ _
 rw [HTk.out]
 exact HD.out.push (w1 := w3) HM.out.symm HV.out HIc.out G3.out G4.out O4.out (by rcases A4.out with h | h; exact .inl h; exact .inr (by omega))
theorem box_step {w wr w3 w4 : World} {L : List RowD} {m : Nat} {a b f v x : Value} {o : Obj} (HB : Hid (EachBoxes w wr a b f)) (HD : Hid (DecSt wp wr Dm Db P n L vs gs)) (HV : Hid (vs[m]? = some v)) (G3 : Hid (wr.grownBy w3 none)) (G4 : Hid ((w3.alloc o).grownBy w4 v.ownBlock)) (hD : w.heap.size + 2 ≤ Dm) :
  Hid (EachBoxes w (w4.setCell ⟨Dm, m, none⟩ x) a b f) := by
 have hl := HD.out.lt.1
 exact (((HB.out.own G3.out (fun k hk => by cases hk)).own (gA w3 _ none) (fun k hk => by cases hk)).own G4.out (fun k hk => by have := ((HD.out.own m _ HV.out).lt k hk).1; omega)).own (gS _ Dm m _) (fun k hk => by cases hk; omega)
end Go.Proofs.YtgeklmigfhhpfaaGreatDoor
namespace Go.Proofs.YtgeklmigfhhpfaaGreatDoor
open Go.RowKit Go.Sort
attribute [local go_sem ↓] Go.wp_at_zero Go.wp_at_succ
theorem less_cmp : ∀ a b : List UInt8, Lib.compareBytes a b < 0 ↔ Op.bytesLess a b = true
 | [], [] => by simp [Lib.compareBytes, Op.bytesLess]
 | [], _ :: _ => by simp [Lib.compareBytes, Op.bytesLess]
 | _ :: _, [] => by simp [Lib.compareBytes, Op.bytesLess]
 | a :: x, b :: y => by
   simp only [Lib.compareBytes, Op.bytesLess]
   by_cases h1 : a < b
   · simp [h1]
   · rw [if_neg h1]
     by_cases h2 : b < a
     · rw [if_pos h2]
       have h3 : a ≠ b := fun e => by subst e; exact h1 h2
       simp [h1, h3]
     · rw [if_neg h2]
       have h3 : a = b := UInt8.le_antisymm (UInt8.not_lt.1 h2) (UInt8.not_lt.1 h1)
       rw [less_cmp x y]
       simp [h3]
theorem ups_of_sorted {us : List (ByteArray × Int)} (hd : us.Pairwise fun a b => a.1 ≠ b.1) (hs : us.Pairwise fun a b => ¬ cmpT b a < 0) : Ups us := by
 unfold Ups
 refine (hd.and hs).imp ?_
 rintro a b ⟨h1, h2⟩
 unfold cmpT at h2
 rw [less_cmp] at h2
 unfold upB
 refine bytesLess_total _ _ ?_ ?_
 · rw [ByteArray.toList_eq, ByteArray.toList_eq]
   exact Bool.eq_false_iff.2 h2
 · rw [beq_eq_false_iff_ne]
   exact fun e => h1 (bytes_ext e).symm
set_option maxHeartbeats 1000000 in
theorem formRow1_any (x y : TermD) (W : World) : Calls Tryz.prog 128 #[.agg #[.string x.1, .int .i64 x.2], .agg #[.string y.1, .int .i64 y.2]] W fun e w' => e = .returned (.int .i64 (cmpT x y)) ∧ ∃ q os', w' = grow (W.drewN q) os' := by
 have hcon := fun W' => Any.strings_Compare Tryz.strCmp x.1 y.1 W'
 change ∀ W', Calls Tryz.prog 90 _ _ _ at hcon
 have e0 : Lib.compareBytes x.1.data.toList y.1.data.toList = cmpT x y := rfl
 rw [e0] at hcon
 generalize cmpT x y = r at hcon ⊢
 clear e0
 go_enter Tryz.func128, Tryz.ntmps128
 go_wp2_with (go_at_call 90; refine (hcon _).mono ?_; rintro e w' ⟨rfl, rfl⟩)
 go_ret
 exact ⟨rfl, 0, _, by rw [alloc_eq_grow, alloc_eq_grow, grow_grow]; rfl⟩
def SortedUp (P : Nat) (v : Value) (ts : List TermD) (w : World) (e : Ending) (w' : World) : Prop :=
 e = .returned (.tuple #[]) ∧ ∃ us, us.Perm ts ∧ us.Pairwise (fun a b => ¬ cmpT b a < 0) ∧ TermRow w' P v us ∧ w.grownBy w' v.ownBlock
theorem sortRow_up (P : Nat) (v : Value) (ts : List TermD) (w : World) (hl : ts.length ≤ 1000) (h : TermRow w P v ts) :
  Calls Tryz.prog 88 #[v, .func (.func 128) #[] #[]] w (SortedUp P v ts w) := by
 rcases h.2 with ⟨rfl, hz⟩ | ⟨g, cap, cur, rfl, _, hb, _⟩
 · have hcon := AnyF.slices_SortFunc_none Tryz.sortTerms none 0 (.func (.func 128) #[] #[]) w
   change Calls Tryz.prog 88 _ _ _ at hcon
   refine hcon.mono ?_
   rintro e w' ⟨rfl, rfl⟩
   obtain rfl := List.length_eq_zero_iff.1 hz
   exact ⟨rfl, [], List.Perm.refl _, List.Pairwise.nil, h, gR _ _⟩
 · have eg : ∀ args w, (callFunc 128 args).run Tryz.prog w = .ok (.enter 128 args) w := enters_of Tryz.func128 (by kernel_rfl) rfl
   have hd : ts.toArray.toList.flatMap termCells = ts.flatMap termCells := by simp
   have hH : HoldsK termCells 2 w g 0 ts.toArray := sorted_holds (enc := termCells) (k := 2) (d := ts.toArray) (n := ts.length) (cap := cap) (P := P) (e := 65) (fun _ => rfl) (by rw [hd]; exact h)
   have hcon := AnyQ.slices_SortFunc Tryz.sortTerms 2 Tryz.isAgg65 Tryz.sizeOf65 termCells (fun _ => rfl) (fun x v hv => by simp [termCells] at hv; rcases hv with rfl | rfl <;> rfl) cmpT cmpT_swo 128 #[] g 0 cap ts.toArray w eg (fun _ _ _ _ x y => formRow1_any x y _) hH (Array.getElem?_eq_some_iff.1 hb).1 (by simp; omega)
   change Calls Tryz.prog 88 _ _ _ at hcon
   refine hcon.mono ?_
   rintro e w' ⟨rfl, d, m, os, ⟨p1, _, p2⟩, p4, rfl⟩
   have hs : d.size = ts.length := by rw [p1]; simp
   have ex : d.extract 0 ts.toArray.size = d := by rw [← p1]; simp
   rw [ex] at p2
   have p3 : d.toList.Perm ts := by simpa using p2
   obtain ⟨s1, s2⟩ := sorted_own id h m (flatK termCells 2 d) os (by simp [hs])
   rw [flatK_list termCells 2 (fun _ => rfl), List.map_id] at s1
   refine ⟨rfl, d.toList, p3, ?_, by unfold TermRow; rw [show d.toList.length = ts.length by simpa using hs]; exact s1, s2⟩
   refine List.pairwise_iff_getElem.2 fun i j hi hj hij => ?_
   have hi' : i < d.size := by simpa using hi
   have hj' : j < d.size := by simpa using hj
   have h5 := p4 i j (Nat.zero_le _) hij (by rw [← p1]; exact hj')
   simp only [ltOf, decide_eq_false_iff_not, getElem!_pos, hi', hj'] at h5
   simpa using h5
theorem pairs_snoc {l : List SideD} {cs : List Int} {k : Nat} (hl : k < l.length) (hc : k < cs.length) : pairsOf (l.take (k + 1)) (cs.take (k + 1)) = pairsOf (l.take k) (cs.take k) ++ (if cs[k] = 0 then [] else [(l[k].1, cs[k])]) := by
 unfold pairsOf
 rw [List.take_succ_eq_append_getElem hl, List.take_succ_eq_append_getElem hc, List.zip_append (by simp; omega), List.filter_append, List.map_append]
 congr 1
 by_cases h : cs[k] = 0 <;> simp [h]
theorem pairs_length (l : List SideD) (cs : List Int) : (pairsOf l cs).length ≤ l.length := by
 unfold pairsOf
 rw [List.length_map]
 exact Nat.le_trans (List.length_filter_le _ _) (by rw [List.length_zip]; omega)
structure FormSt (w0 wr : World) (rn : Int) (rv : Value) (v : Value) (us : List TermD) : Prop where
 grown : w0.grownBy wr none
 rbox : wr.heap[w0.heap.size]? = some (.cells #[.int .i64 rn, rv] 86 (0, 0))
 res : wr.heap[w0.heap.size + 1]? = some (.cells #[.int .i64 0, .slice none 0 0] 35 (0, 0))
 box : wr.heap[w0.heap.size + 1 + 1]? = some (.cells #[.int .i64 rn, v] 35 (0, 0))
 row : TermRow wr (w0.heap.size + 3) v us
theorem FormSt.own {w0 wr w' : World} {rn : Int} {rv v v' : Value} {us us' : List TermD} {r : Option Nat} (h : FormSt w0 wr rn rv v us) (hg : wr.grownBy w' r) (hr : ∀ k, r = some k → w0.heap.size + 3 ≤ k) (ho : TermRow w' (w0.heap.size + 3) v' us') : FormSt w0 (w'.setCell ⟨w0.heap.size + 1 + 1, 1, none⟩ v') rn rv v' us' := by
 have g2 := gS w' (w0.heap.size + 1 + 1) 1 v'
 have k1 := kH h.rbox hg (fun e => by have := hr _ e; omega)
 have k2 := kH h.res hg (fun e => by have := hr _ e; omega)
 have k3 := kH h.box hg (fun e => by have := hr _ e; omega)
 refine ⟨gO (gO h.grown hg (fun k hk => by have := hr k hk; omega)) g2 (fun k hk => by cases hk; omega), kH k1 g2 (by simp; omega), kH k2 g2 (by simp), ?_, World.ownsRow.kept ho g2 (own_ne ho (by omega))⟩
 show (w'.heap.modify (w0.heap.size + 1 + 1) _)[w0.heap.size + 1 + 1]? = _
 rw [Array.getElem?_modify, if_pos rfl, k3]
 simp
theorem FormSt.sorted {w0 wr w' : World} {rn : Int} {rv v : Value} {us us' : List TermD} (h : FormSt w0 wr rn rv v us) (hg : wr.grownBy w' v.ownBlock) (ho : TermRow w' (w0.heap.size + 3) v us') : FormSt w0 w' rn rv v us' := by
 have hr : ∀ k, v.ownBlock = some k → w0.heap.size + 3 ≤ k := fun k hk => (World.ownsRow.lt h.row k hk).1
 exact ⟨gO h.grown hg (fun k hk => by have := hr k hk; omega), kH h.rbox hg (fun e => by have := hr _ e; omega), kH h.res hg (fun e => by have := hr _ e; omega), kH h.box hg (fun e => by have := hr _ e; omega), ho⟩
theorem FormSt.start (w : World) (rn : Int) (rv : Value) : FormSt w (((w.alloc (.cells #[.int .i64 rn, rv] 86)).alloc (.cells #[.int .i64 0, .slice none 0 0] 35)).alloc (.cells #[.int .i64 rn, .slice none 0 0] 35)) rn rv (.slice none 0 0) [] := by
 refine ⟨gT (gA _ _ _) (gT (gA _ _ _) (gA _ _ _)), ?_, ?_, ?_, World.ownsRow_nil _ _ _ _⟩
 all_goals
  show (((w.heap.push _).push _).push _)[_]? = _
  simp only [Array.getElem?_push, Array.size_push]
  first | (simp; done) | (rw [if_neg (by omega), if_neg (by omega), if_pos trivial])
theorem own_ne2 {w0 w : World} {v : Value} {us : List TermD} (h : TermRow w (w0.heap.size + 3) v us) : v.ownBlock ≠ some (w0.heap.size + 1 + 1) := fun e => by have := (World.ownsRow.lt h _ e).1; omega
theorem own_from {w0 w : World} {v : Value} {us : List TermD} (h : TermRow w (w0.heap.size + 3) v us) : ∀ k, v.ownBlock = some k → w0.heap.size + 3 ≤ k := fun k hk => (World.ownsRow.lt h k hk).1
def FormedRow (l : List SideD) (r : RowD) (w : World) (e : Ending) (w' : World) : Prop :=
 ∃ us p cap, e = .returned (.agg #[.int .i64 r.1, .slice p us.length cap]) ∧ TermRow w' w.heap.size (.slice p us.length cap) us ∧ us.Perm (pairsOf l r.2) ∧ Ups us ∧ w.grownBy w' none
set_option maxRecDepth 100000 in
set_option maxHeartbeats 8000000 in
theorem rowForm_any (l : List SideD) (r : RowD) (rv sv : Value) (w : World) (hr : IntsAt w rv r.2) (hs : SidesAt w sv l) (hl : r.2.length = l.length) (hn : l.length ≤ 1000) (ha : Apart l) :
  Calls Tryz.prog 94 #[.agg #[.int .i64 r.1, rv], sv] w (FormedRow l r w) := by
 obtain ⟨rn, rs⟩ := r
 simp only at hr hl ⊢
 obtain ⟨pr, rcap, rfl, hrl, hrc⟩ := id hr
 obtain ⟨ps, scap, rfl, ⟨hsl, hscc⟩, hsc⟩ := id hs
 have HR := uH hrc
 have HS := uH hsc
 have HL := uH hl
 have HA := uH ha
 obtain ⟨i0, hi, hz0, hz1, hz2⟩ := info_parts Tryz.infoTerm
 clear hr hs hrc hsc ha hl
 go_enter Tryz.func94, Tryz.ntmps94
 go_upto_region 2 with fail
 have HF := uH (FormSt.start w rn (.slice pr rs.length rcap))
 generalize ((w.alloc (.cells #[.int .i64 rn, .slice pr rs.length rcap] 86)).alloc (.cells #[.int .i64 0, .slice none 0 0] 35)).alloc (.cells #[.int .i64 rn, .slice none 0 0] 35) = w1 at *
 have b1 := (cO HF.out.rbox).2.1
 go_wp2
 go_loopw [14] (fun i wr => ∃ (k : Nat) (p : Option Addr) (n cap : Nat) (us : List TermD), k ≤ rs.length ∧ i = .int .i64 k ∧ Hid (us = pairsOf (l.take k) (rs.take k)) ∧ Hid (us.length = n) ∧ Hid (FormSt w wr rn (.slice pr rs.length rcap) (.slice p n cap) us)) (fun i _ => rs.length - (intOf i).toNat)
 case atStart => exact ⟨0, none, 0, 0, [], Nat.zero_le _, rfl, by simp [Hid, pairsOf], rfl, HF.out⟩
 case round =>
  obtain ⟨k, p, n, cap, us, hk, rfl, HU, HN, HF⟩ := hrel
  by_cases hlt : k < rs.length
  · have hle : rs.length = l.length := HL.out
    have hltl : k < l.length := by rw [← hle]; exact hlt
    clear hle
    have h0 := List.getElem?_eq_getElem hlt
    have h1 := List.getElem?_eq_getElem hltl
    obtain ⟨bb, oo, rfl, hx1, c1⟩ := HR.out k _ h0
    have c1' := HF.out.grown.cell c1 (by simp)
    have hsd := HS.out k _ h1
    obtain ⟨sb, so, rfl, q1, q2, q3, d1, d2, d3⟩ := hsd.kept HF.out.grown
    have HPs := uH (pairs_snoc hltl hlt)
    have hnn : n ≤ 1000 := by
     have := pairs_length (l.take k) (rs.take k)
     rw [← HU.out, HN.out] at this
     simp at this
     omega
    have x1 := (cO HF.out.box).2.1
    have xf := (cO HF.out.box).2.2 1
    generalize rs[k] = x at *
    generalize l[k] = s at *
    have hI1 : (k : Int) < (rs.length : Int) := by omega
    have hI2 : (k : Int) < (l.length : Int) := by omega
    have hI0 : (0 : Int) ≤ (k : Int) := by omega
    clear h0 h1 c1 hsd
    by_cases hx : x = 0
    · subst hx
      go_wp2
      go_roundw
      case rel => exact ⟨k + 1, p, n, cap, us, by omega, by go_num, by show _ = _; rw [HPs.out, if_pos rfl, List.append_nil]; exact HU.out, HN.out, HF.out⟩
      case measure => simp [intOf]; omega
    · have hx0 : (x != 0) = true := by simpa using hx
      have HX := uH hx
      have hs3 := (Array.getElem?_eq_some_iff.1 HF.out.box).1
      have HO : Hid (wr.ownsRow (w.heap.size + 3) 65 2 (.slice p n cap) n (us.flatMap termCells)) := by
       have h := HF.out.row
       unfold TermRow at h
       rwa [HN.out] at h
      have x1a := (gA wr (.cells #[.string s.1, .int .i64 x] 65) none).cell x1 (by simp)
      clear hx
      go_wp2
      refine wp_last fun K8 hK8 => ?_
      go_cut [] from 21 to 32 (fun wx => ∃ (p' : Option Addr) (n' cap' : Nat) (us' : List TermD), Hid (us' = us ++ [(s.1, x)]) ∧ Hid (us'.length = n') ∧ Hid (FormSt w wx rn (.slice (some ⟨bb, oo, none⟩) rs.length rcap) (.slice p' n' cap') us'))
      case first =>
       go_region_law (first
        | (refine step_append_lies _ (by rfl) _ _ 33 (by rfl) (w.heap.size + 3) 65 i0 (.agg #[.string ByteArray.empty, .int .i64 0]) 2 24 Tryz.underlying33 hi hz0 hz1 hz2 (by rfl) (by decide) (.slice p n cap) n (us.flatMap termCells) (by rfl) (owns_kept HO.out (grown_a1 _ _)) ⟨wr.heap.size, 0, none⟩ 1 1 (termCells (s.1, x)) (by rfl) (by rfl) news_at (by simp [termCells, Value.oneCell']) (by decide) (by unfold maxLen; omega) (by omega) (by simp; omega) (wr.heap.size + 1) (by simp) ?_; intro g' ncap w4' hown4 hgrow4 hat _; have G4 := uH (gT (grownBy_any _ (grown_a1 _ _)) hgrow4); have O4 := uH hown4; have c4 := uH (kH HF.out.box G4.out (own_ne2 HF.out.row)); have y1 := (cO c4.out).2.1; have yf := (cO c4.out).2.2 1; clear hown4 hgrow4 hat))
       all_goals
        go_wp2_with fail
        go_meet
        case rel => exact ⟨_, n + 1, ncap, us ++ [(s.1, x)], rfl, by show _ = _; rw [List.length_append, HN.out]; rfl, HF.out.own G4.out (own_from HF.out.row) (by unfold TermRow; rw [List.length_append, HN.out, List.flatMap_append]; simpa using O4.out)⟩
      case rest =>
       obtain ⟨p', n', cap', us', HU', HN', HF'⟩ := hcut
       refine hK8 _ _ ?_
       go_wp2
       go_roundw
       case rel => exact ⟨k + 1, p', n', cap', us', by omega, by go_num, by show _ = _; rw [HU'.out, HPs.out, if_neg HX.out, ← HU.out], HN'.out, HF'.out⟩
       case measure => simp [intOf]; omega
  · obtain rfl : k = rs.length := by omega
    have x0 := (cO HF.out.box).1
    have x1 := (cO HF.out.box).2.1
    have HU2 : Hid (us = pairsOf l rs) := by
     have h := HU.out
     have hle : rs.length = l.length := HL.out
     rw [List.take_length, hle, List.take_length] at h
     exact h
    have hul : us.length ≤ 1000 := by
     rw [HU2.out]
     exact Nat.le_trans (pairs_length _ _) hn
    have HUl := uH hul
    clear hul
    go_wp2_with (go_at_call 88; go_must (refine (sortRow_up (w.heap.size + 3) (.slice p n cap) us wr HUl.out HF.out.row).mono ?_; rintro e w2 ⟨rfl, us2, hp, hso, hro, hg2⟩; have HF2 := uH (HF.out.sorted hg2 hro); have HPm := uH hp; have HSo := uH hso; have y0 := (cO HF2.out.box).1; have y1 := (cO HF2.out.box).2.1; have r0 := (cO HF2.out.res).1; have r1 := (cO HF2.out.res).2.1; have rf := (cO HF2.out.res).2.2; clear hp hso hro hg2))
    obtain ⟨f1, f2⟩ := two_set HF2.out.res (.int .i64 rn) (.slice p n cap)
    refine bodyPost_end (results_cell_row rfl _ _ (w.heap.size + 1) _ _ _ _ rfl f1 Tryz.underlying35 rfl Tryz.infoForm2) rfl ?_
    have hlen : us2.length = n := by rw [HPm.out.length_eq, HN.out]
    have hperm : us2.Perm (pairsOf l rs) := by rw [← HU2.out]; exact HPm.out
    refine ⟨us2, p, cap, by rw [hlen], ?_, hperm, ups_of_sorted ((hperm.pairwise_iff (fun h e => h e.symm)).2 (pairs_apart HA.out)) (HSo.out.imp fun h => by omega), gO HF2.out.grown f2 (fun k hk => by cases hk; omega)⟩
    have h := HF2.out.row
    rw [hlen]
    exact owns_lower (World.ownsRow.kept h f2 (own_ne h (by omega))) (by omega)
end Go.Proofs.YtgeklmigfhhpfaaGreatDoor
