/-
 The conditions, forty times.
-/
import Derived.Test.YtjgddagladmgoaaRepeat
namespace Go.Proofs.Ytjgddagladmgoaa
open Go.RowKit

theorem rep_get {α : Type} (l : List α) : ∀ (c j : Nat), j < c * l.length → ((List.replicate c l).flatten)[j]? = l[j % l.length]?
  | 0, j, h => by simp at h
  | c + 1, j, h => by
    rw [List.replicate_succ, List.flatten_cons]
    by_cases hj : j < l.length
    · rw [List.getElem?_append_left hj, Nat.mod_eq_of_lt hj]
    · rw [List.getElem?_append_right (by omega), rep_get l c (j - l.length) (by rw [Nat.add_mul] at h; omega)]
      rw [show j % l.length = (j - l.length) % l.length from Nat.mod_eq_sub_mod (by omega)]

theorem wpList_copy_nil {P : Program} {w : World} {ops : Array Oper} {rest : List Oper} {o : Oper} {a : Act} {Q : Exit → Act → World → Prop} (hgd : o.guard = none) (d s : Operand) (dT sT : TypeId)
    (ho : o.op = .call { callee := .builtin .copy, args := #[d, s], argTypes := #[dT, sT] }) (elem : TypeId) (size : Nat) (hu : P.underlying dT = some (.slice elem)) (hsz : (P.info? elem).map (·.size) = some size)
    (g dLen dCap : Nat) (hd : a.eval d = .slice (some ⟨g, 0, none⟩) dLen dCap) (hs : a.eval s = .slice none 0 0)
    (h : wpList P ops Q rest (a.put o.dst (goInt 0)) w) : wpList P ops Q (o :: rest) a w := by
  refine wpList_plain hgd fun K hK => ?_
  have hrun := run_copy_nil (P := P) w dT sT o.type elem ⟨g, 0, none⟩ dLen dCap hu (by rw [hsz]; rfl)
  unfold Oper.wp
  simp [execOp, ho, resolve, invoke, builtin, hd, hs, hrun, Result.andThen]
  exact hK _ _ h

theorem rep_len {α : Type} (l : List α) : ∀ (c : Nat), ((List.replicate c l).flatten).length = l.length * c
  | 0 => rfl
  | c + 1 => by rw [List.replicate_succ, List.flatten_cons, List.length_append, rep_len l c, Nat.mul_succ, Nat.add_comm]

theorem conds_repeat {w2 : World} {P n g c : Nat} {cv : Value} {cs : List CondD} {tvs : List Value} (h : CSt w2 P cv cs tvs) (hn : cs.length = n) (hcl : n * c ≤ 40000)
    (hc : ∀ j, j < n * c * 2 → w2.cell? ⟨g, j, none⟩ = ((cs.zip tvs).flatMap condCells)[j % (n * 2)]?) : CondsAt w2 (.slice (some ⟨g, 0, none⟩) (n * c) (n * c)) ((List.replicate c cs).flatten) := by
  have hlen : ((List.replicate c cs).flatten).length = n * c := by rw [rep_len, hn]
  refine ⟨some ⟨g, 0, none⟩, n * c, by rw [hlen], by rw [hlen]; omega, fun j f hj => ?_⟩
  have hjl : j < n * c := by rw [← hlen]; exact (List.getElem?_eq_some_iff.1 hj).1
  have hn0 : 0 < n := by
    rcases Nat.eq_zero_or_pos n with h0 | h0
    · rw [h0, Nat.zero_mul] at hjl
      omega
    · exact h0
  rw [rep_get cs c j (by rw [hn, Nat.mul_comm]; exact hjl), hn] at hj
  have hml : j % n < n := Nat.mod_lt _ hn0
  have hjt : tvs[j % n]? = some (tvs[j % n]'(by rw [h.len]; omega)) := List.getElem?_eq_getElem _
  generalize tvs[j % n]'(by rw [h.len]; omega) = tv at hjt
  have hz : (cs.zip tvs)[j % n]? = some (f, tv) := by
    rw [List.getElem?_zip_eq_some]
    exact ⟨hj, hjt⟩
  obtain ⟨⟨g1, g2⟩, g3, g4⟩ := h.good f (List.mem_of_getElem? hj)
  have m0 : (j * 2) % (n * 2) = (j % n) * 2 + 0 := by rw [Nat.mul_mod_mul_right]; rfl
  have m1 : (j * 2 + 1) % (n * 2) = (j % n) * 2 + 1 := by
    have h1 := Nat.div_add_mod j n
    have h2 : j * 2 + 1 = ((j % n) * 2 + 1) + (n * 2) * (j / n) := by
      have h3 : n * 2 * (j / n) = n * (j / n) * 2 := by rw [Nat.mul_assoc, Nat.mul_comm 2, ← Nat.mul_assoc]
      omega
    rw [h2, Nat.add_mul_mod_self_left, Nat.mod_eq_of_lt (by omega)]
  refine ⟨g, 0, tv, rfl, ?_, ?_, terms_of_owns (h.terms _ f tv hj hjt).1 (by omega) g4, by omega, by omega⟩
  · rw [Nat.zero_add, hc _ (by omega), m0]
    exact flat_get (f := condCells) (k := 2) (fun _ => rfl) hz (i := 0) (v := Value.int .i64 f.1) rfl
  · rw [Nat.zero_add, hc _ (by omega), m1]
    exact flat_get (f := condCells) (k := 2) (fun _ => rfl) hz (i := 1) (v := tv) rfl

set_option maxRecDepth 100000 in
set_option maxHeartbeats 2000000 in
theorem repeat_nil (xs : List Value) (w : World) :
    Calls Try.prog 25 #[.slice none 0 0, .int .i64 40] w (RepeatOf xs 0 40 w) := by
  go_enter Try.func25, Try.ntmps25
  obtain ⟨j0, hj0, hy0, hy1, hy2⟩ := info_parts Try.infoFormR
  go_wp2_with (first
    | (go_at_call 48; refine (mul_any 0 40 (by omega) (by omega) _).mono ?_; rintro e w' ⟨rfl, hw⟩; rw [hw]; clear hw; simp only [Nat.zero_mul, Nat.zero_div, Nat.zero_mod])
    | (at_make; go_must (refine wpList_make_full w rfl _ _ 27 rfl w.heap.size 57 j0 (.agg #[.int .i64 0, .slice none 0 0]) 2 Try.underlying27 hj0 hy0 hy1 .i64 .i64 _ _ 0 rfl rfl rfl rfl (by rw [hy2]; omega) (by unfold maxLen; omega) (Nat.le_refl _) ?_; intro w1 hown hg1; have HG1 := Lib.hid hg1; clear hown hg1))
    | (refine wpList_copy_nil rfl _ _ _ _ rfl 57 2 Try.underlying27 Try.infoForm2 w.heap.size 0 0 rfl rfl ?_))
  go_loopw [8] (fun i wr => i = .int .i64 0 ∧ Hid (w.grownBy wr none)) (fun i _ => 0)
  case atStart => exact ⟨rfl, HG1.out⟩
  case round =>
    obtain ⟨rfl, HGw⟩ := hrel
    go_wp2_with (fail)
    go_ret
    exact ⟨w.heap.size, rfl, Nat.le_refl _, HGw.out, fun j hj => by omega⟩

/-- Either way. -/
theorem repeat_any {w : World} {P cap n : Nat} {p : Option Addr} {cs : List CondD} {tvs : List Value} (h : CSt w P (.slice p n cap) cs tvs) (hn : cs.length = n) (hl : n ≤ 1000) :
    Calls Try.prog 25 #[.slice p n cap, .int .i64 40] w (RepeatOf ((cs.zip tvs).flatMap condCells) n 40 w) := by
  subst hn
  rcases h.row.2 with ⟨hv, hz⟩ | ⟨g, c, cur, hv, _⟩
  · obtain ⟨rfl, _, rfl⟩ := Value.slice.inj hv
    rw [hz]
    exact repeat_nil _ w
  · obtain ⟨rfl, _, rfl⟩ := Value.slice.inj hv
    refine repeat_some _ _ _ _ _ hl h.row.1 (fun j v hj => ?_) (fun v hv => ?_)
    · obtain ⟨g2, c2, e, _, k⟩ := own_cell h.row hj
      obtain ⟨e1, _, _⟩ := Value.slice.inj e
      cases e1
      have hadd : (⟨g, 0, none⟩ : Addr).add j = ⟨g, j, none⟩ := by unfold Addr.add; split <;> simp_all
      rw [hadd]
      exact k
    · obtain ⟨⟨f, tv⟩, hm, hv⟩ := List.mem_flatMap.1 hv
      obtain ⟨j, hj⟩ := List.mem_iff_getElem?.1 hm
      rw [List.getElem?_zip_eq_some] at hj
      obtain ⟨q, c3, htv⟩ := own_form (h.terms j f tv hj.1 hj.2).1
      simp [condCells] at hv
      rcases hv with rfl | rfl
      · rfl
      · rw [htv]; rfl
end Go.Proofs.Ytjgddagladmgoaa
