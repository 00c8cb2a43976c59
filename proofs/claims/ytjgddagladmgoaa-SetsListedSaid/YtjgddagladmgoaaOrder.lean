/-
 What a form without an error is: names that rise, so that no two are one.
-/
import Derived.Test.YtjgddagladmgoaaSet
namespace Go.Proofs.Ytjgddagladmgoaa
open Go.RowKit

theorem bytesLess_irrefl : ∀ x : List UInt8, Op.bytesLess x x = false
  | [] => rfl
  | a :: x => by simp [Op.bytesLess, bytesLess_irrefl x]

theorem bytesLess_trans : ∀ x y z : List UInt8, Op.bytesLess x y = true → Op.bytesLess y z = true → Op.bytesLess x z = true
  | _, [], _, h, _ => by simp [Op.bytesLess] at h
  | _, _ :: _, [], _, h => by simp [Op.bytesLess] at h
  | [], _ :: _, _ :: _, _, _ => rfl
  | a :: x, b :: y, c :: z, h, k => by
    simp only [Op.bytesLess, Bool.or_eq_true, decide_eq_true_eq, Bool.and_eq_true, beq_iff_eq] at h k ⊢
    rcases h with h | ⟨rfl, h⟩
    · rcases k with k | ⟨rfl, k⟩
      · exact .inl (UInt8.lt_trans h k)
      · exact .inl h
    · rcases k with k | ⟨rfl, k⟩
      · exact .inl k
      · exact .inr ⟨rfl, bytesLess_trans x y z h k⟩

theorem bytesLess_total : ∀ x y : List UInt8, Op.bytesLess x y = false → (x == y) = false → Op.bytesLess y x = true
  | [], [], _, h => by simp at h
  | _ :: _, [], _, _ => rfl
  | [], _ :: _, h, _ => by simp [Op.bytesLess] at h
  | a :: x, b :: y, h, k => by
    simp only [Op.bytesLess, Bool.or_eq_false_iff, decide_eq_false_iff_not, Bool.and_eq_false_iff, Bool.or_eq_true, decide_eq_true_eq, Bool.and_eq_true, beq_iff_eq, List.cons_beq_cons, beq_eq_false_iff_ne] at h k ⊢
    obtain ⟨h1, h2⟩ := h
    by_cases hab : a = b
    · subst hab
      refine .inr ⟨rfl, bytesLess_total x y (by rcases h2 with h2 | h2; exact absurd rfl h2; exact h2) ?_⟩
      rcases k with k | k
      · exact absurd rfl k
      · simpa using k
    · refine .inl ?_
      rcases UInt8.lt_or_lt_of_ne hab with h | h
      · exact absurd h h1
      · exact h

theorem bytes_ext {a b : ByteArray} (h : a.toList = b.toList) : a = b := by
  rw [ByteArray.toList_eq, ByteArray.toList_eq] at h
  cases a; cases b
  simp at h
  rw [h]

theorem lt_of_not_leB {a b : ByteArray} (h : leB a b = false) : Op.bytesLess b.toList a.toList = true := by
  simp only [leB, Bool.or_eq_false_iff] at h
  exact bytesLess_total _ _ h.1 h.2

/-- A form's terms without an error: right names, right coefficients, rising. -/
theorem terms_good {l : List (ByteArray × Int)} : ∀ last, termsErr last l = 0 →
    (∀ t ∈ l, nameB t.1 = true ∧ coefBad t.2 = false ∧ Op.bytesLess last.toList t.1.toList = true) ∧ l.Pairwise (fun a b => a.1 ≠ b.1) := by
  induction l with
  | nil => intro last _; exact ⟨fun t ht => (by cases ht), List.Pairwise.nil⟩
  | cons x r ih =>
    intro last h
    simp only [termsErr] at h
    split at h
    · split at h
      · cases h
      · split at h
        · cases h
        · rename_i h1 h2 h3
          obtain ⟨i1, i2⟩ := ih _ h
          have hx := lt_of_not_leB (by simpa using h3 : leB x.1 last = false)
          refine ⟨fun t ht => ?_, List.Pairwise.cons (fun t ht he => ?_) i2⟩
          · rcases List.mem_cons.1 ht with rfl | ht
            · exact ⟨h1, by simpa using h2, hx⟩
            · obtain ⟨j1, j2, j3⟩ := i1 t ht
              exact ⟨j1, j2, bytesLess_trans _ _ _ hx j3⟩
          · have := (i1 t ht).2.2
            rw [he, bytesLess_irrefl] at this
            cases this
    · cases h

theorem form_good {c : Int} {ts : List (ByteArray × Int)} (h : formErr c ts = 0) :
    (-1000000 ≤ c ∧ c ≤ 1000000) ∧ ts.length ≤ 12 ∧ (∀ t ∈ ts, nameB t.1 = true ∧ -1000 ≤ t.2 ∧ t.2 ≤ 1000) ∧ ts.Pairwise (fun a b => a.1 ≠ b.1) := by
  simp only [formErr] at h
  split at h
  · split at h
    · cases h
    · rename_i h1 h2
      obtain ⟨i1, i2⟩ := terms_good _ h
      refine ⟨by simp [inB] at h1; exact h1, by omega, fun t ht => ?_, i2⟩
      obtain ⟨j1, j2, _⟩ := i1 t ht
      refine ⟨j1, ?_⟩
      simp [coefBad, inB] at j2
      exact j2.2
  · cases h

theorem name_ne_empty {s : ByteArray} (h : nameB s = true) : s ≠ ByteArray.empty := by
  intro e
  subst e
  simp [nameB] at h

end Go.Proofs.Ytjgddagladmgoaa
