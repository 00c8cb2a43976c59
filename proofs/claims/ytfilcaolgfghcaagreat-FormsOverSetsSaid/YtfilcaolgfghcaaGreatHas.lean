/-
 has, Has: whether a list is a point.
 The points of a set when each condition is asked as soon as it is decided.
-/
import Derived.Test.YtfilcaolgfghcaaGreatSpace
import Derived.BigQuiet
import Derived.Deep.DeepMust
namespace Go.Proofs.YtfilcaolgfghcaaGreat
open Go.RowKit
attribute [local go_sem ↓] Go.wp_at_zero Go.wp_at_succ

/-- A point as the program asks for it. -/
def pointP (S : List SideD × List CondD) (xs : List Int) : Bool := (S.1.zip xs).all sideIn && !(rowsOf S).any (negRow xs)

theorem near_of {S : List SideD} {xs : List Int} (h : sidesErr [] S = 0) (hl : xs.length ≤ S.length) (hi : (S.zip xs).all sideIn = true) : near xs := by
  intro x hx
  obtain ⟨j, hj, rfl⟩ := List.getElem_of_mem hx
  have hm : (S[j]'(by omega), xs[j]) ∈ S.zip xs := by
    rw [List.mem_iff_getElem]
    exact ⟨j, by simp; omega, by simp⟩
  have h1 := List.all_eq_true.1 hi _ hm
  have h2 := side_range (sides_good [] h _ (List.of_mem_zip hm).1).2
  simp [sideIn, inB] at h1
  omega

theorem valIn_cons (n s : ByteArray) (x : Int) (l : List (ByteArray × Int)) : valIn ((s, x) :: l) n = if s.toList == n.toList then x else valIn l n := by
  unfold valIn
  rw [List.find?_cons]
  cases h : (s.toList == n.toList) <;> simp

theorem valIn_place {n : ByteArray} : ∀ {S : List SideD} {xs : List Int}, xs.length = S.length → S.any (sameName n) = true → ∃ k, S.findIdx? (sameName n) = some k ∧ xs[k]? = some (valIn (varsOf S xs) n)
  | [], _, _, h => by simp at h
  | s :: S, [], h, _ => by simp at h
  | s :: S, x :: xs, hl, h => by
    have e : varsOf (s :: S) (x :: xs) = (s.1, x) :: varsOf S xs := rfl
    rw [List.findIdx?_cons, e, valIn_cons]
    cases hs : sameName n s
    · have hs' : (s.1.toList == n.toList) = false := hs
      obtain ⟨k, h1, h2⟩ := valIn_place (n := n) (S := S) (xs := xs) (by simpa using hl) (by simpa [hs] using h)
      exact ⟨k + 1, by simp [h1], by simp [h2, hs']⟩
    · have hs' : (s.1.toList == n.toList) = true := hs
      exact ⟨0, by simp, by simp [hs']⟩

theorem dot_set : ∀ (cs xs : List Int) (i : Nat) (z c x : Int), cs[i]? = some c → xs[i]? = some x → dot (cs.set i z) xs = dot cs xs + (z - c) * x
  | [], _, _, _, _, _, h, _ => by simp at h
  | _ :: _, [], _, _, _, _, _, h => by simp at h
  | a :: cs, b :: xs, 0, z, c, x, h, hx => by
    simp at h hx
    subst h hx
    simp only [List.set_cons_zero, dot, Int.sub_mul]
    omega
  | a :: cs, b :: xs, i + 1, z, c, x, h, hx => by
    have ih := dot_set cs xs i z c x (by simpa using h) (by simpa using hx)
    simp only [List.set_cons_succ, dot]
    rw [ih]
    omega

theorem place_name {S : List SideD} {t : ByteArray × Int} {k : Nat} (h : S.findIdx? (sameName t.1) = some k) : ∃ s, S[k]? = some s ∧ s.1 = t.1 := by
  obtain ⟨hk, h1, _⟩ := List.findIdx?_eq_some_iff_getElem.1 h
  exact ⟨S[k], by simp, bytes_ext (by simpa [sameName] using h1)⟩

theorem dot_fold {S : List SideD} {xs : List Int} (hl : xs.length = S.length) : ∀ (ts : List (ByteArray × Int)) (cs : List Int), cs.length = S.length → (∀ t ∈ ts, S.any (sameName t.1) = true) → ts.Pairwise (fun a b => a.1 ≠ b.1) → (∀ t ∈ ts, cs[placeN S t]? = some 0) →
    dot (ts.foldl (fun cs t => cs.set (placeN S t) t.2) cs) xs = dot cs xs + (ts.map fun t => t.2 * valIn (varsOf S xs) t.1).sum
  | [], cs, _, _, _, _ => by simp
  | t :: r, cs, hc, hin, hp, hz => by
    obtain ⟨k, h1, h2⟩ := valIn_place (n := t.1) hl (hin t (by simp))
    have hk : placeN S t = k := by simp [placeN, firstI, h1]
    have h0 := hz t (by simp)
    obtain ⟨p1, p2⟩ := List.pairwise_cons.1 hp
    rw [List.foldl_cons, dot_fold hl r _ (by simp [hc]) (fun t ht => hin t (by simp [ht])) p2 (fun u hu => ?_), List.map_cons, List.sum_cons]
    · rw [hk] at h0 ⊢
      rw [dot_set _ _ _ _ _ _ h0 h2]
      simp
      omega
    · obtain ⟨m, m1, m2⟩ := valIn_place (n := u.1) hl (hin u (by simp [hu]))
      have hm : placeN S u = m := by simp [placeN, firstI, m1]
      have hne : placeN S t ≠ placeN S u := by
        rw [hk, hm]
        rintro rfl
        obtain ⟨s1, e1, e2⟩ := place_name h1
        obtain ⟨s2, e3, e4⟩ := place_name m1
        rw [e1] at e3
        cases e3
        exact p1 u hu (e2.symm.trans e4)
      rw [List.getElem?_set_ne hne]
      exact hz u (by simp [hu])

theorem dot_zeros : ∀ (n : Nat) (xs : List Int), dot (List.replicate n 0) xs = 0
  | 0, xs => by cases xs <;> rfl
  | n + 1, [] => rfl
  | n + 1, x :: xs => by simp [List.replicate_succ, dot, dot_zeros n xs]

/-- The value of a row is that of the form. -/
theorem rowVal_eq {S : List SideD} {xs : List Int} {c : Int} {ts : List (ByteArray × Int)} (hl : xs.length = S.length) (hf : formErr c ts = 0) (hin : termsIn (namesOf S) ts = true) :
    rowVal (c, coefsOf S ts) xs = valueOf (valIn (varsOf S xs)) c ts := by
  have hin' : ∀ t ∈ ts, S.any (sameName t.1) = true := fun t ht => by rw [sameName_any]; exact List.all_eq_true.1 hin t ht
  have h := dot_fold hl ts (List.replicate S.length 0) (by simp) hin' (form_good hf).2.2.2 (fun t ht => by
    obtain ⟨k, h1, _⟩ := valIn_place (n := t.1) hl (hin' t ht)
    obtain ⟨s, hs, _⟩ := place_name h1
    have hk := (List.getElem?_eq_some_iff.1 hs).1
    simp [placeN, firstI, h1, hk])
  simp only [rowVal, valueOf, coefsOf, h, dot_zeros]
  omega

theorem any_map_eq {α β : Type} {f : α → β} {p : β → Bool} {q : α → Bool} : ∀ {l : List α}, (∀ a ∈ l, p (f a) = q a) → (l.map f).any p = l.any q
  | [], _ => rfl
  | a :: r, h => by simp only [List.map_cons, List.any_cons, h a (by simp), any_map_eq (l := r) (fun a ha => h a (by simp [ha]))]

theorem rows_any {S : List SideD × List CondD} {xs : List Int} (h : setErr S = 0) (hl : xs.length = S.1.length) : (rowsOf S).any (negRow xs) = S.2.any (negB (valIn (varsOf S.1 xs))) := by
  obtain ⟨_, _, _, g4⟩ := set_good h
  unfold rowsOf
  refine any_map_eq fun f hf => ?_
  obtain ⟨c1, c2⟩ := conds_good g4 f hf
  simp only [negRow, negB]
  rw [rowVal_eq hl c1 c2]

theorem pointP_eq {S : List SideD × List CondD} {xs : List Int} (h : setErr S = 0) (hl : xs.length = S.1.length) : pointP S xs = pointB S xs := by
  unfold pointP pointB
  rw [rows_any h hl]
  rfl


end Go.Proofs.YtfilcaolgfghcaaGreat

namespace Go.Proofs.YtfilcaolgfghcaaGreat
open Go.RowKit

def rowsLen (R : List RowD) (m : Nat) : List RowD := R.filter fun r => rowLen r.2 == m
def fromP (R : List RowD) : List Int → List SideD → List (List Int)
  | pre, [] => if (rowsLen R pre.length).any (negRow pre) then [] else [pre]
  | pre, s :: r => if (rowsLen R pre.length).any (negRow pre) then [] else (rangeI s.2.1 (s.2.2 - s.2.1 + 1).toNat).flatMap fun v => fromP R (pre ++ [v]) r

theorem negRow_more {r : RowD} {pre : List Int} (more : List Int) (h : rowLen r.2 ≤ pre.length) : negRow (pre ++ more) r = negRow pre r := by
  unfold negRow rowVal
  rw [dot_more r.2 pre more h]

theorem points_none {S : List SideD × List CondD} (hg : setErr S = 0) {r : RowD} (hr : r ∈ rowsOf S) : ∀ (rest : List SideD) (pre : List Int), pre.length + rest.length = S.1.length → rowLen r.2 ≤ pre.length → negRow pre r = true → pointsFrom S pre rest = []
  | [], pre, hl, _, hn => by
    have h1 : pointB S pre = false := by
      rw [← pointP_eq hg (by simpa using hl)]
      have : (rowsOf S).any (negRow pre) = true := List.any_eq_true.2 ⟨r, hr, hn⟩
      simp [pointP, this]
    simp [pointsFrom, h1]
  | s :: rest, pre, hl, h1, hn => by
    simp only [pointsFrom, List.flatMap_eq_nil_iff]
    intro v _
    exact points_none hg hr rest (pre ++ [v]) (by simp at hl ⊢; omega) (by simp; omega) (by rw [negRow_more _ h1]; exact hn)

theorem zip_snoc : ∀ {S : List SideD} {pre : List Int} {s : SideD} {v : Int} {rest : List SideD}, S.drop pre.length = s :: rest → S.zip (pre ++ [v]) = S.zip pre ++ [(s, v)]
  | [], pre, _, _, _, h => by simp at h
  | a :: S, [], s, v, rest, h => by
    simp at h
    simp [h.1]
  | a :: S, x :: pre, s, v, rest, h => by
    have ih := zip_snoc (S := S) (pre := pre) (s := s) (v := v) (rest := rest) (by simpa using h)
    simp [ih]

theorem fromP_eq {S : List SideD × List CondD} (hg : setErr S = 0) : ∀ (rest : List SideD) (pre : List Int), S.1.drop pre.length = rest → pre.length ≤ S.1.length → (S.1.zip pre).all sideIn = true → (∀ r ∈ rowsOf S, rowLen r.2 < pre.length → negRow pre r = false) →
    fromP (rowsOf S) pre rest = pointsFrom S pre rest
  | rest, pre, hd, hl, hin, hmet => by
    have hlen : pre.length + rest.length = S.1.length := by
      have := congrArg List.length hd
      simp at this
      omega
    cases hb : (rowsLen (rowsOf S) pre.length).any (negRow pre)
    · have hmet' : ∀ r ∈ rowsOf S, rowLen r.2 ≤ pre.length → negRow pre r = false := by
        intro r hr h
        by_cases he : rowLen r.2 = pre.length
        · have := List.any_eq_false.1 hb r (List.mem_filter.2 ⟨hr, by simpa using he⟩)
          simpa using this
        · exact hmet r hr (by omega)
      match rest, hd, hlen with
      | [], hd, hlen =>
        have hl' : pre.length = S.1.length := by simpa using hlen
        have h1 : pointB S pre = true := by
          rw [← pointP_eq hg hl']
          have : (rowsOf S).any (negRow pre) = false := by
            rw [List.any_eq_false]
            intro r hr
            have := hmet' r hr (by have := rowLen_le r.2; have := (rows_good hg r hr).1; omega)
            simpa using this
          simp [pointP, this, hin]
        simp [fromP, pointsFrom, hb, h1]
      | s :: rest, hd, hlen =>
        simp only [fromP, pointsFrom, hb, Bool.false_eq_true, if_false]
        refine flatMap_congr' fun v hv => ?_
        have hd2 : S.1.drop (pre.length + 1) = rest := by
          rw [← List.drop_drop, hd]
          rfl
        refine fromP_eq hg rest (pre ++ [v]) (by simpa using hd2) (by simp at hlen ⊢; omega) ?_ fun r hr h => ?_
        · rw [zip_snoc hd, List.all_append, hin]
          obtain ⟨k, hk, rfl⟩ := List.mem_map.1 hv
          have hk := List.mem_range.1 hk
          simp [sideIn, inB]
          omega
        · have h' : rowLen r.2 ≤ pre.length := by simp at h; omega
          rw [negRow_more _ h']
          exact hmet' r hr h'
    · obtain ⟨r, hr, hn⟩ := List.any_eq_true.1 hb
      obtain ⟨h1, h2⟩ := List.mem_filter.1 hr
      have h2 : rowLen r.2 = pre.length := by simpa using h2
      rw [points_none hg h1 rest pre hlen (by omega) hn]
      cases rest <;> simp [fromP, hb]
 where
  flatMap_congr' {α β : Type} {f g : α → List β} : ∀ {l : List α}, (∀ a ∈ l, f a = g a) → l.flatMap f = l.flatMap g
    | [], _ => rfl
    | a :: r, h => by rw [List.flatMap_cons, List.flatMap_cons, h a (by simp), flatMap_congr' (l := r) (fun a ha => h a (by simp [ha]))]

theorem fromP_all {S : List SideD × List CondD} (hg : setErr S = 0) : fromP (rowsOf S) [] S.1 = pointsFrom S [] S.1 :=
  fromP_eq hg S.1 [] rfl (Nat.zero_le _) (by simp) (fun r _ h => by simp at h)

/-- The points that are visited one after the other as long as it goes on, behind those before; and whether it always did. -/
def walkP (go : List (List Int) → Bool) : List (List Int) → List (List Int) → List (List Int) × Bool
  | d, [] => (d, true)
  | d, p :: r => if go (d ++ [p]) then walkP go (d ++ [p]) r else (d ++ [p], false)
theorem walkP_append (go : List (List Int) → Bool) : ∀ (a b d : List (List Int)), walkP go d (a ++ b) = if (walkP go d a).2 then walkP go (walkP go d a).1 b else walkP go d a
  | [], b, d => by simp [walkP]
  | p :: a, b, d => by
    simp only [List.cons_append, walkP]
    split
    · exact walkP_append go a b _
    · simp
theorem walkP_length (go : List (List Int) → Bool) : ∀ (a d : List (List Int)), (walkP go d a).1.length ≤ d.length + a.length
  | [], d => by simp [walkP]
  | p :: a, d => by
    simp only [walkP]
    split
    · have := walkP_length go a (d ++ [p])
      simp at this ⊢
      omega
    · simp
theorem fromP_length (R : List RowD) : ∀ (rest : List SideD) (pre : List Int), (fromP R pre rest).length ≤ boxN rest
  | [], pre => by
    simp only [fromP, boxN]
    split <;> simp
  | s :: r, pre => by
    simp only [fromP, boxN]
    split
    · simp
    · refine Nat.le_trans (length_flatMap_le (m := boxN r) fun v _ => fromP_length R r _) ?_
      simp [rangeI]

end Go.Proofs.YtfilcaolgfghcaaGreat
