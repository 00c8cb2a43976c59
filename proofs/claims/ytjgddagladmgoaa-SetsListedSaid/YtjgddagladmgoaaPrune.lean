/-
 The points of a set when each condition is asked as soon as it is decided.
-/
import Derived.Test.YtjgddagladmgoaaHas
namespace Go.Proofs.Ytjgddagladmgoaa
open Go.RowKit

def rowsLen (R : List RowD) (m : Nat) : List RowD := R.filter fun r => rowLen r.2 == m
def fromP (R : List RowD) : List Int → List SideD → List (List Int)
  | pre, [] => if (rowsLen R pre.length).any (negRow pre) then [] else [pre]
  | pre, s :: r => if (rowsLen R pre.length).any (negRow pre) then [] else (rangeI s.2.1 (s.2.2 - s.2.1 + 1).toNat).flatMap fun v => fromP R (pre ++ [v]) r

theorem negRow_more {r : RowD} {pre : List Int} (more : List Int) (h : rowLen r.2 ≤ pre.length) : negRow (pre ++ more) r = negRow pre r := by
  unfold negRow rowVal
  rw [dot_more r.2 pre more h]

theorem points_none {S : List SideD × List CondD} (hg : setErr S = 0) {r : RowD} (hr : r ∈ rowsOf S) : ∀ (rest : List SideD) (pre : List Int), pre.length + rest.length = S.1.length → rowLen r.2 ≤ pre.length → negRow pre r = true → pointsFrom S pre rest = []
  | [], pre, hl, _, hn => by
    have h1 : pointB S pre = false := by
      rw [← pointP_eq hg (by simpa using hl)]
      have : (rowsOf S).any (negRow pre) = true := List.any_eq_true.2 ⟨r, hr, hn⟩
      simp [pointP, this]
    simp [pointsFrom, h1]
  | s :: rest, pre, hl, h1, hn => by
    simp only [pointsFrom, List.flatMap_eq_nil_iff]
    intro v _
    exact points_none hg hr rest (pre ++ [v]) (by simp at hl ⊢; omega) (by simp; omega) (by rw [negRow_more _ h1]; exact hn)

theorem zip_snoc : ∀ {S : List SideD} {pre : List Int} {s : SideD} {v : Int} {rest : List SideD}, S.drop pre.length = s :: rest → S.zip (pre ++ [v]) = S.zip pre ++ [(s, v)]
  | [], pre, _, _, _, h => by simp at h
  | a :: S, [], s, v, rest, h => by
    simp at h
    simp [h.1]
  | a :: S, x :: pre, s, v, rest, h => by
    have ih := zip_snoc (S := S) (pre := pre) (s := s) (v := v) (rest := rest) (by simpa using h)
    simp [ih]

theorem fromP_eq {S : List SideD × List CondD} (hg : setErr S = 0) : ∀ (rest : List SideD) (pre : List Int), S.1.drop pre.length = rest → pre.length ≤ S.1.length → (S.1.zip pre).all sideIn = true → (∀ r ∈ rowsOf S, rowLen r.2 < pre.length → negRow pre r = false) →
    fromP (rowsOf S) pre rest = pointsFrom S pre rest
  | rest, pre, hd, hl, hin, hmet => by
    have hlen : pre.length + rest.length = S.1.length := by
      have := congrArg List.length hd
      simp at this
      omega
    cases hb : (rowsLen (rowsOf S) pre.length).any (negRow pre)
    · have hmet' : ∀ r ∈ rowsOf S, rowLen r.2 ≤ pre.length → negRow pre r = false := by
        intro r hr h
        by_cases he : rowLen r.2 = pre.length
        · have := List.any_eq_false.1 hb r (List.mem_filter.2 ⟨hr, by simpa using he⟩)
          simpa using this
        · exact hmet r hr (by omega)
      match rest, hd, hlen with
      | [], hd, hlen =>
        have hl' : pre.length = S.1.length := by simpa using hlen
        have h1 : pointB S pre = true := by
          rw [← pointP_eq hg hl']
          have : (rowsOf S).any (negRow pre) = false := by
            rw [List.any_eq_false]
            intro r hr
            have := hmet' r hr (by have := rowLen_le r.2; have := (rows_good hg r hr).1; omega)
            simpa using this
          simp [pointP, this, hin]
        simp [fromP, pointsFrom, hb, h1]
      | s :: rest, hd, hlen =>
        simp only [fromP, pointsFrom, hb, Bool.false_eq_true, if_false]
        refine flatMap_congr' fun v hv => ?_
        have hd2 : S.1.drop (pre.length + 1) = rest := by
          rw [← List.drop_drop, hd]
          rfl
        refine fromP_eq hg rest (pre ++ [v]) (by simpa using hd2) (by simp at hlen ⊢; omega) ?_ fun r hr h => ?_
        · rw [zip_snoc hd, List.all_append, hin]
          obtain ⟨k, hk, rfl⟩ := List.mem_map.1 hv
          have hk := List.mem_range.1 hk
          simp [sideIn, inB]
          omega
        · have h' : rowLen r.2 ≤ pre.length := by simp at h; omega
          rw [negRow_more _ h']
          exact hmet' r hr h'
    · obtain ⟨r, hr, hn⟩ := List.any_eq_true.1 hb
      obtain ⟨h1, h2⟩ := List.mem_filter.1 hr
      have h2 : rowLen r.2 = pre.length := by simpa using h2
      rw [points_none hg h1 rest pre hlen (by omega) hn]
      cases rest <;> simp [fromP, hb]
 where
  flatMap_congr' {α β : Type} {f g : α → List β} : ∀ {l : List α}, (∀ a ∈ l, f a = g a) → l.flatMap f = l.flatMap g
    | [], _ => rfl
    | a :: r, h => by rw [List.flatMap_cons, List.flatMap_cons, h a (by simp), flatMap_congr' (l := r) (fun a ha => h a (by simp [ha]))]

theorem fromP_all {S : List SideD × List CondD} (hg : setErr S = 0) : fromP (rowsOf S) [] S.1 = pointsFrom S [] S.1 :=
  fromP_eq hg S.1 [] rfl (Nat.zero_le _) (by simp) (fun r _ h => by simp at h)

/-- The points that are visited one after the other as long as it goes on, behind those before; and whether it always did. -/
def walkP (go : List (List Int) → Bool) : List (List Int) → List (List Int) → List (List Int) × Bool
  | d, [] => (d, true)
  | d, p :: r => if go (d ++ [p]) then walkP go (d ++ [p]) r else (d ++ [p], false)
theorem walkP_append (go : List (List Int) → Bool) : ∀ (a b d : List (List Int)), walkP go d (a ++ b) = if (walkP go d a).2 then walkP go (walkP go d a).1 b else walkP go d a
  | [], b, d => by simp [walkP]
  | p :: a, b, d => by
    simp only [List.cons_append, walkP]
    split
    · exact walkP_append go a b _
    · simp
theorem walkP_length (go : List (List Int) → Bool) : ∀ (a d : List (List Int)), (walkP go d a).1.length ≤ d.length + a.length
  | [], d => by simp [walkP]
  | p :: a, d => by
    simp only [walkP]
    split
    · have := walkP_length go a (d ++ [p])
      simp at this ⊢
      omega
    · simp
theorem fromP_length (R : List RowD) : ∀ (rest : List SideD) (pre : List Int), (fromP R pre rest).length ≤ boxN rest
  | [], pre => by
    simp only [fromP, boxN]
    split <;> simp
  | s :: r, pre => by
    simp only [fromP, boxN]
    split
    · simp
    · refine Nat.le_trans (length_flatMap_le (m := boxN r) fun v _ => fromP_length R r _) ?_
      simp [rangeI]

end Go.Proofs.Ytjgddagladmgoaa
