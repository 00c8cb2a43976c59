/-
 What a sort of a row of the call's own leaves.
-/
import Derived.Test.YtfilcaolgfghcaaGreatAReady
import Derived.Test.YtfilcaolgfghcaaGreatCmp
import Derived.Shelf.GgSortFunc.RowK
import Derived.Lib.Bytealg
namespace Go.Proofs.YtfilcaolgfghcaaGreat
open Go.RowKit Go.Sort

theorem put_row {β : Type} [Inhabited β] (enc : β → Value) (w : World) (g m : Nat) (F : Array β) (os : Array Obj) (cur : Array Value) (T : TypeId) (hg : w.heap[g]? = some (.cells cur T (0, 0))) (hs : F.size ≤ cur.size) :
    (grow (putRow enc (Go.Sort.ahead w m) g 0 F) os).heap[g]? = some (.cells (putCells enc 0 F cur) T (0, 0)) ∧ (putCells enc 0 F cur).size = cur.size ∧ (putCells enc 0 F cur).toList.take F.size = F.toList.map enc ∧ w.grownBy (grow (putRow enc (Go.Sort.ahead w m) g 0 F) os) (some g) := by
  have hlt : g < w.heap.size := (Array.getElem?_eq_some_iff.1 hg).1
  have hh : ∀ k, k < w.heap.size → (grow (putRow enc (Go.Sort.ahead w m) g 0 F) os).heap[k]? = (w.heap.modify g (onCells (putCells enc 0 F)))[k]? := fun k hk => by
    show ((w.heap.modify g (onCells (putCells enc 0 F))) ++ os)[k]? = _
    rw [Array.getElem?_append_left (by simpa using hk)]
  refine ⟨?_, by simp [putCells], ?_, rfl, rfl, rfl, ?_, fun k hk hne => ?_⟩
  · rw [hh g hlt, Array.getElem?_modify, if_pos rfl, hg]
    rfl
  · refine List.ext_getElem (by simp [putCells]; omega) fun i h1 h2 => ?_
    have hi : i < F.size := by simpa using h2
    simp [putCells, hi]
  · show w.heap.size ≤ ((w.heap.modify g (onCells (putCells enc 0 F))) ++ os).size
    simp
  · rw [hh k hk, Array.getElem?_modify, if_neg (fun e => hne (by rw [e]))]

theorem flatK_list {α : Type} [Inhabited α] (enc : α → List Value) (k : Nat) (hk : ∀ a, (enc a).length = k) (d : Array α) : (flatK enc k d).toList = d.toList.flatMap enc := by
  have hl : (d.toList.flatMap enc).length = d.size * k := by rw [flat_length hk]; simp
  refine List.ext_getElem (by rw [hl]; simp) fun t h1 h2 => ?_
  have ht : t < d.size * k := by rw [← hl]; exact h2
  have k0 : 0 < k := by
    rcases Nat.eq_zero_or_pos k with h | h
    · rw [h] at ht; simp at ht
    · exact h
  have hq : t / k < d.size := Nat.div_lt_of_lt_mul (by rw [Nat.mul_comm]; exact ht)
  have hr : t % k < (enc d[t / k]!).length := by rw [hk]; exact Nat.mod_lt _ k0
  have e1 : (flatK enc k d)[t]! = (enc d[t / k]!)[t % k]! := get_flatK enc k d t ht
  have e2 := flat_get hk (l := d.toList) (j := t / k) (i := t % k) (a := d[t / k]!) (v := (enc d[t / k]!)[t % k]!) (by simp [hq]) (by rw [List.getElem?_eq_getElem hr]; exact congrArg some (getElem!_pos (enc d[t / k]!) _ hr).symm)
  rw [show t / k * k + t % k = t by rw [Nat.mul_comm]; exact Nat.div_add_mod t k] at e2
  rw [List.getElem?_eq_getElem h2] at e2
  have e3 : (flatK enc k d)[t]! = (flatK enc k d).toList[t] := by
    rw [getElem!_pos _ t (by simpa using h1)]
    simp
  rw [← e3, e1]
  exact (Option.some.inj e2).symm

/-- A row of the call's own, sorted. -/
theorem sorted_own {β : Type} [Inhabited β] (enc : β → Value) {w : World} {P : Nat} {e : TypeId} {size n cap g : Nat} {xs : List Value} (h : w.ownsRow P e size (.slice (some ⟨g, 0, none⟩) n cap) n xs) (m : Nat) (F : Array β) (os : Array Obj) (hF : F.size = n * size) :
    (grow (putRow enc (Go.Sort.ahead w m) g 0 F) os).ownsRow P e size (.slice (some ⟨g, 0, none⟩) n cap) n (F.toList.map enc) ∧ w.grownBy (grow (putRow enc (Go.Sort.ahead w m) g 0 F) os) (some g) := by
  obtain ⟨h1, h2⟩ := h
  rcases h2 with ⟨hv, _⟩ | ⟨g', cap', cur, hv, hb, hg, hn, hc, hs, ht⟩
  · cases hv
  · obtain ⟨hgg, _, rfl⟩ := Value.slice.inj hv
    simp only [Option.some.injEq, Addr.mk.injEq, and_true] at hgg
    subst hgg
    have hle : n * size ≤ cap * size := Nat.mul_le_mul_right _ hn
    obtain ⟨p1, p2, p3, p4⟩ := put_row enc w g m F os cur e hg (by omega)
    exact ⟨⟨by simp [hF], .inr ⟨g, cap, _, rfl, hb, p1, hn, hc, by rw [p2, hs], by rw [← hF]; exact p3⟩⟩, p4⟩

theorem sorted_holds {α : Type} [Inhabited α] {enc : α → List Value} {k : Nat} (hk : ∀ a, (enc a).length = k) {w : World} {P : Nat} {e : TypeId} {n cap g : Nat} {d : Array α} (h : w.ownsRow P e k (.slice (some ⟨g, 0, none⟩) n cap) n (d.toList.flatMap enc)) : HoldsK enc k w g 0 d := by
  rw [← flatK_list enc k hk] at h
  have hfz : ∀ j, w.frozen? ⟨g, j, none⟩ = false := by
    rcases h.2 with ⟨hv, _⟩ | ⟨g', cap', cur, hv, hb, hg, _⟩
    · cases hv
    · obtain ⟨hgg, _, _⟩ := Value.slice.inj hv
      simp only [Option.some.injEq, Addr.mk.injEq, and_true] at hgg
      subst hgg
      intro j
      simp [World.frozen?, hg]
  intro j hj
  obtain ⟨g', c', hv, _, hcell⟩ := own_cell h (j := j) (u := (flatK enc k d)[j]!) (by rw [getElem!_pos _ j hj]; simp)
  obtain ⟨hgg, _, _⟩ := Value.slice.inj hv
  simp only [Option.some.injEq, Addr.mk.injEq, and_true] at hgg
  subst hgg
  exact ⟨by simpa using hcell, hfz _⟩

/-- Strings, in their order. -/
theorem cmpB_lex (a b : List UInt8) : Lib.compareBytes a b = cmpL (a.map fun x => (x.toNat : Int)) (b.map fun x => (x.toNat : Int)) := by
  induction a generalizing b with
  | nil => cases b <;> rfl
  | cons x r ih =>
    cases b with
    | nil => rfl
    | cons y s =>
      simp only [Lib.compareBytes, List.map_cons, cmpL, ih]
      simp only [UInt8.lt_iff_toNat_lt, Int.ofNat_lt]

end Go.Proofs.YtfilcaolgfghcaaGreat
