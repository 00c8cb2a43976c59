/-
 Lists of numbers in their order; what is left of equal ones.
 What slices.SortFunc leaves of a row of lists.
 slices.Compare of two lists of numbers.
-/
import Derived.Test.YtfilcaolgfghcaaGreatDraws
import Derived.Shelf.SlSortCmp.Whole1
import Derived.Test.YtfilcaolgfghcaaGreatParts
namespace Go.Proofs.YtfilcaolgfghcaaGreat

/-- What slices.Compare says of two lists of numbers. -/
def cmpL : List Int → List Int → Int
  | [], [] => 0
  | [], _ :: _ => -1
  | _ :: _, [] => 1
  | x :: r, y :: s => if x < y then -1 else if y < x then 1 else cmpL r s

theorem cmpL_self : ∀ x : List Int, cmpL x x = 0
  | [] => rfl
  | a :: r => by simp [cmpL, cmpL_self r]
theorem cmpL_range : ∀ x y : List Int, cmpL x y = -1 ∨ cmpL x y = 0 ∨ cmpL x y = 1
  | [], [] => .inr (.inl rfl)
  | [], _ :: _ => .inl rfl
  | _ :: _, [] => .inr (.inr rfl)
  | a :: r, b :: s => by
    simp only [cmpL]
    split
    · exact .inl rfl
    · split
      · exact .inr (.inr rfl)
      · exact cmpL_range r s
theorem cmpL_anti : ∀ x y : List Int, cmpL y x = - cmpL x y
  | [], [] => rfl
  | [], _ :: _ => rfl
  | _ :: _, [] => rfl
  | a :: r, b :: s => by
    simp only [cmpL]
    rcases Int.lt_trichotomy a b with h | h | h
    · simp [h, show ¬ b < a by omega]
    · subst h
      simp only [Int.lt_irrefl, if_false]
      exact cmpL_anti r s
    · simp [h, show ¬ a < b by omega]
theorem cmpL_zero : ∀ x y : List Int, cmpL x y = 0 → x = y
  | [], [], _ => rfl
  | [], _ :: _, h => by simp [cmpL] at h
  | _ :: _, [], h => by simp [cmpL] at h
  | a :: r, b :: s, h => by
    simp only [cmpL] at h
    split at h
    · simp at h
    · split at h
      · simp at h
      · have : a = b := by omega
        rw [this, cmpL_zero r s h]
theorem cmpL_trans : ∀ x y z : List Int, cmpL x y < 0 → cmpL y z < 0 → cmpL x z < 0
  | [], [], _, h, _ => by simp [cmpL] at h
  | [], _ :: _, [], _, h => by simp [cmpL] at h
  | [], _ :: _, _ :: _, _, _ => by simp [cmpL]
  | _ :: _, [], _, h, _ => by simp [cmpL] at h
  | _ :: _, _ :: _, [], _, h => by simp [cmpL] at h
  | a :: r, b :: s, c :: t, h, k => by
    simp only [cmpL] at h k ⊢
    rcases Int.lt_trichotomy a b with h1 | h1 | h1
    · rcases Int.lt_trichotomy b c with h2 | h2 | h2
      · rw [if_pos (by omega)]; decide
      · rw [if_pos (by omega)]; decide
      · rw [if_neg (by omega), if_pos h2] at k
        simp at k
    · subst h1
      simp only [Int.lt_irrefl, if_false] at h
      rcases Int.lt_trichotomy a c with h2 | h2 | h2
      · rw [if_pos h2]; decide
      · subst h2
        simp only [Int.lt_irrefl, if_false] at k ⊢
        exact cmpL_trans r s t h k
      · rw [if_neg (by omega), if_pos h2] at k
        simp at k
    · rw [if_neg (by omega), if_pos h1] at h
      simp at h
theorem cmpL_le_trans {x y z : List Int} (h : ¬ cmpL y x < 0) (k : ¬ cmpL z y < 0) : ¬ cmpL z x < 0 := by
  have h1 := cmpL_anti x y
  have h2 := cmpL_anti y z
  have h3 := cmpL_anti x z
  rcases cmpL_range x y with a | a | a
  · rcases cmpL_range y z with b | b | b
    · have := cmpL_trans x y z (by omega) (by omega)
      omega
    · obtain rfl := cmpL_zero _ _ b
      omega
    · omega
  · obtain rfl := cmpL_zero _ _ a
    exact k
  · omega

/-- Rising strictly, rising. -/
def Strict (l : List (List Int)) : Prop := l.Pairwise fun x y => cmpL x y < 0
def Rising (l : List (List Int)) : Prop := l.Pairwise fun x y => ¬ cmpL y x < 0

theorem strict_eq : ∀ {a b : List (List Int)}, Strict a → Strict b → (∀ x, x ∈ a ↔ x ∈ b) → a = b
  | [], [], _, _, _ => rfl
  | [], y :: s, _, _, h => by have := (h y).2 (by simp); simp at this
  | x :: r, [], _, _, h => by have := (h x).1 (by simp); simp at this
  | x :: r, y :: s, ha, hb, h => by
    obtain ⟨a1, a2⟩ := List.pairwise_cons.1 ha
    obtain ⟨b1, b2⟩ := List.pairwise_cons.1 hb
    have e : x = y := by
      rcases List.mem_cons.1 ((h x).1 (by simp)) with e | hx
      · exact e
      · rcases List.mem_cons.1 ((h y).2 (by simp)) with e | hy
        · exact e.symm
        · have := b1 x hx
          have := a1 y hy
          have := cmpL_anti x y
          omega
    subst e
    have hr : r = s := strict_eq a2 b2 fun z => by
      constructor
      · intro hz
        rcases List.mem_cons.1 ((h z).1 (List.mem_cons_of_mem _ hz)) with e | k
        · subst e
          have := a1 _ hz
          rw [cmpL_self] at this
          omega
        · exact k
      · intro hz
        rcases List.mem_cons.1 ((h z).2 (List.mem_cons_of_mem _ hz)) with e | k
        · subst e
          have := b1 _ hz
          rw [cmpL_self] at this
          omega
        · exact k
    rw [hr]

/-- Of equal ones next to each other the first one is kept. -/
def keepFrom : List Int → List (List Int) → List (List Int)
  | _, [] => []
  | p, y :: r => if y = p then keepFrom y r else y :: keepFrom y r
def compactL : List (List Int) → List (List Int)
  | [] => []
  | x :: r => x :: keepFrom x r

theorem keep_mem : ∀ (r : List (List Int)) (p z : List Int), z ∈ p :: keepFrom p r ↔ z ∈ p :: r
  | [], p, z => by simp [keepFrom]
  | y :: r, p, z => by
    have ih := keep_mem r y z
    unfold keepFrom
    split
    · rename_i h
      subst h
      simp at ih ⊢
      exact ih
    · simp at ih ⊢
      rw [ih]
theorem compact_mem (l : List (List Int)) (z : List Int) : z ∈ compactL l ↔ z ∈ l := by
  cases l with
  | nil => rfl
  | cons x r => exact keep_mem r x z
theorem keep_strict : ∀ (r : List (List Int)) (p : List Int), Rising (p :: r) → Strict (p :: keepFrom p r)
  | [], p, _ => by simp [keepFrom, Strict]
  | y :: r, p, h => by
    obtain ⟨h1, h2⟩ := List.pairwise_cons.1 h
    have ih := keep_strict r y h2
    unfold keepFrom
    split
    · rename_i e
      subst e
      exact ih
    · rename_i hne
      refine List.pairwise_cons.2 ⟨fun z hz => ?_, ih⟩
      have hpy : cmpL p y < 0 := by
        have := h1 y (by simp)
        have a := cmpL_anti p y
        rcases cmpL_range p y with c | c | c
        · omega
        · exact absurd (cmpL_zero _ _ c).symm hne
        · omega
      rcases List.mem_cons.1 hz with rfl | hz
      · exact hpy
      · exact cmpL_trans _ _ _ hpy ((List.pairwise_cons.1 ih).1 z hz)
theorem compact_strict {l : List (List Int)} (h : Rising l) : Strict (compactL l) := by
  cases l with
  | nil => exact List.Pairwise.nil
  | cons x r => exact keep_strict r x h

/-- Each list once, as they come. -/
def firsts : List (List Int) → List (List Int) → List (List Int)
  | d, [] => d
  | d, p :: r => if p ∈ d then firsts d r else firsts (d ++ [p]) r

theorem firsts_snoc : ∀ (r d : List (List Int)) (p : List Int), firsts d (r ++ [p]) = if p ∈ firsts d r then firsts d r else firsts d r ++ [p]
  | [], d, p => rfl
  | q :: r, d, p => by
    simp only [List.cons_append, firsts]
    split
    · exact firsts_snoc r d p
    · exact firsts_snoc r _ p
theorem firsts_mem : ∀ (r d : List (List Int)) (z : List Int), z ∈ firsts d r ↔ z ∈ d ∨ z ∈ r
  | [], d, z => by simp [firsts]
  | q :: r, d, z => by
    simp only [firsts]
    split
    · rename_i h
      rw [firsts_mem r d z]
      constructor
      · rintro (h | h)
        · exact .inl h
        · exact .inr (List.mem_cons_of_mem _ h)
      · rintro (h2 | h2)
        · exact .inl h2
        · rcases List.mem_cons.1 h2 with rfl | h2
          · exact .inl h
          · exact .inr h2
    · rw [firsts_mem r (d ++ [q]) z]
      simp [or_assoc]
theorem firsts_nodup : ∀ (r d : List (List Int)), d.Nodup → (firsts d r).Nodup
  | [], d, h => h
  | q :: r, d, h => by
    simp only [firsts]
    split
    · exact firsts_nodup r d h
    · rename_i hn
      refine firsts_nodup r _ ?_
      rw [List.nodup_append]
      refine ⟨h, by simp, fun a ha b hb => ?_⟩
      obtain rfl := List.mem_singleton.1 hb
      rintro rfl
      exact hn ha
theorem firsts_le : ∀ (r d : List (List Int)), (firsts d r).length ≤ d.length + r.length
  | [], d => by simp [firsts]
  | q :: r, d => by
    simp only [firsts]
    split
    · have := firsts_le r d
      simp
      omega
    · have := firsts_le r (d ++ [q])
      simp at this ⊢
      omega
theorem firsts_ge : ∀ (r d : List (List Int)), d.length ≤ (firsts d r).length
  | [], d => by simp [firsts]
  | q :: r, d => by
    simp only [firsts]
    split
    · exact firsts_ge r d
    · have := firsts_ge r (d ++ [q])
      simp at this
      omega

theorem strict_of {l : List (List Int)} (h : Rising l) (hn : l.Nodup) : Strict l := by
  have h2 := h.and hn
  refine h2.imp ?_
  rintro x y ⟨a, b⟩
  have c := cmpL_anti x y
  rcases cmpL_range x y with d | d | d
  · omega
  · exact absurd (cmpL_zero _ _ d) b
  · omega

/-- A table, sorted, without its equals, is the sorted list of those that come. -/
theorem table_eq {t u l d : List (List Int)} (ht : t.Perm l) (hr : Rising t) (hd : d.Perm (firsts [] l)) (hu : Rising d) (hx : u = compactL t) : u = d := by
  subst hx
  refine strict_eq (compact_strict hr) (strict_of hu (hd.nodup_iff.2 (firsts_nodup l [] List.nodup_nil))) fun z => ?_
  rw [compact_mem, ht.mem_iff, hd.mem_iff, firsts_mem]
  simp

theorem table_len {t l : List (List Int)} (ht : t.Perm l) (hr : Rising t) : (compactL t).length = (firsts [] l).length := by
  let d := (firsts [] l).mergeSort fun x y => !decide (cmpL y x < 0)
  have hp : d.Perm (firsts [] l) := List.mergeSort_perm _ _
  have hs : Rising d := by
    have h := List.pairwise_mergeSort (le := fun x y => !decide (cmpL y x < 0)) (fun a b c h1 h2 => by
      simp at h1 h2 ⊢
      have := cmpL_le_trans (x := a) (y := b) (z := c) (by omega) (by omega)
      omega) (fun a b => by
      have := cmpL_anti a b
      have := cmpL_range a b
      simp
      omega) (firsts [] l)
    refine h.imp ?_
    intro a b h
    simpa using h
  rw [table_eq ht hr hp hs rfl, hp.length_eq]

end Go.Proofs.YtfilcaolgfghcaaGreat

namespace Go.Proofs.YtfilcaolgfghcaaGreat
open Go.Sort

def cmpIx (L : List (List Int)) (n : Nat) (i j : Fin n) : Int := cmpL (L.getD i.1 []) (L.getD j.1 [])

theorem cmpIx_swo (L : List (List Int)) (n : Nat) : SWO (ltOf (cmpIx L n)) where
  irrefl x := by simp [ltOf, cmpIx, cmpL_self]
  trans x y z h k := decide_eq_true (cmpL_trans _ _ _ (of_decide_eq_true h) (of_decide_eq_true k))
  ntrans x y z h k := decide_eq_false (cmpL_le_trans (of_decide_eq_false k) (of_decide_eq_false h))

/-- The numbers below n, in their order. -/
def ixs (n : Nat) : Array (Fin n) := Array.ofFn id
theorem ixs_size (n : Nat) : (ixs n).size = n := by simp [ixs]

/-- The lists in the order of an array of their places. -/
def tableOf {n : Nat} (L : List (List Int)) (d : Array (Fin n)) : List (List Int) := d.toList.map fun i : Fin n => L.getD i.1 []

theorem table_ixs (L : List (List Int)) (n : Nat) (h : L.length = n) : tableOf L (ixs n) = L := by
  subst h
  refine List.ext_getElem (by simp [tableOf, ixs]) fun i h1 h2 => ?_
  simp [tableOf, ixs]

theorem table_sorted {n : Nat} [Inhabited (Fin n)] {L : List (List Int)} (h : L.length = n) {d : Array (Fin n)} (hp : PermIn 0 (ixs n).size (ixs n) d) (hs : SortedIn (ltOf (cmpIx L n)) 0 (ixs n).size d) :
    d.size = n ∧ (tableOf L d).Perm L ∧ Rising (tableOf L d) := by
  obtain ⟨h1, _, h2⟩ := hp
  rw [ixs_size] at h1
  refine ⟨h1, ?_, ?_⟩
  · have hs3 : (ixs n).size = d.size := by rw [ixs_size, h1]
    have e : d.extract 0 (ixs n).size = d := by rw [hs3]; simp
    rw [e] at h2
    have e2 : (ixs n).extract 0 (ixs n).size = ixs n := by simp
    rw [e2] at h2
    have := h2.map fun i : Fin n => L.getD i.1 []
    have e3 := table_ixs L n h
    unfold tableOf at e3 ⊢
    rw [e3] at this
    exact this
  · refine List.pairwise_iff_getElem.2 fun i j hi hj hij => ?_
    have hi' : i < d.size := by simpa [tableOf] using hi
    have hj' : j < d.size := by simpa [tableOf] using hj
    have := hs i j (Nat.zero_le _) hij (by rw [ixs_size, ← h1]; exact hj')
    simp only [ltOf, cmpIx, decide_eq_false_iff_not, getElem!_pos, hi', hj'] at this
    simpa [tableOf] using this

end Go.Proofs.YtfilcaolgfghcaaGreat

namespace Go.Proofs.YtfilcaolgfghcaaGreat
open Go.RowKit

/-- What a call gives that turns nothing. -/
def Reads (v : Value) (w : World) (e : Ending) (w' : World) : Prop := e = .returned v ∧ w' = w

theorem isNaN_any (x : Int) (w : World) : Calls Tryz.prog 113 #[.int .i64 x] w (Reads (.bool false) w) := by
  have hx : (x != x) = false := by simp
  go_enter Tryz.func113, Tryz.ntmps113
  go_wp2
  go_ret
  exact ⟨rfl, rfl⟩

def cmpI (x y : Int) : Int := if x < y then -1 else if y < x then 1 else 0

set_option maxHeartbeats 1000000 in
theorem cmpInt_any (x y : Int) (w : World) : Calls Tryz.prog 83 #[.int .i64 x, .int .i64 y] w (Reads (.int .i64 (cmpI x y)) w) := by
  go_enter Tryz.func83, Tryz.ntmps83
  rcases Int.lt_trichotomy x y with h | h | h
  · have h2 : ¬ y < x := by omega
    go_wp2_with (first | (go_at_call 113; refine (isNaN_any _ _).mono ?_; rintro e w' ⟨rfl, rfl⟩))
    go_ret
    exact ⟨ret_i64 (by simp [cmpI, h]), rfl⟩
  · subst h
    go_wp2_with (first | (go_at_call 113; refine (isNaN_any _ _).mono ?_; rintro e w' ⟨rfl, rfl⟩))
    go_ret
    exact ⟨ret_i64 (by simp [cmpI]), rfl⟩
  · have h2 : ¬ x < y := by omega
    go_wp2_with (first | (go_at_call 113; refine (isNaN_any _ _).mono ?_; rintro e w' ⟨rfl, rfl⟩))
    go_ret
    exact ⟨ret_i64 (by simp [cmpI, h, h2]), rfl⟩

theorem cmpL_drop {xs ys : List Int} {k : Nat} {x y : Int} (hx : xs[k]? = some x) (hy : ys[k]? = some y) : cmpL (xs.drop k) (ys.drop k) = if cmpI x y = 0 then cmpL (xs.drop (k + 1)) (ys.drop (k + 1)) else cmpI x y := by
  obtain ⟨h1, rfl⟩ := List.getElem?_eq_some_iff.1 hx
  obtain ⟨h2, rfl⟩ := List.getElem?_eq_some_iff.1 hy
  rw [List.drop_eq_getElem_cons h1, List.drop_eq_getElem_cons h2, cmpL]
  unfold cmpI
  split
  · simp
  · split <;> simp
theorem cmpL_short {xs ys : List Int} {k : Nat} (h1 : k < xs.length) (h2 : ys.length ≤ k) : cmpL (xs.drop k) (ys.drop k) = 1 := by
  rw [List.drop_eq_getElem_cons h1, List.drop_of_length_le h2]
  rfl
theorem cmpL_end {xs ys : List Int} {k : Nat} (h1 : xs.length ≤ k) : cmpL (xs.drop k) (ys.drop k) = if k < ys.length then -1 else 0 := by
  rw [List.drop_of_length_le h1]
  split
  · rw [List.drop_eq_getElem_cons (by assumption)]
    rfl
  · rw [List.drop_of_length_le (by omega)]
    rfl

set_option maxRecDepth 100000 in
set_option maxHeartbeats 1000000 in
theorem compare_any (v u : Value) (xs ys : List Int) (w : World) (hv : IntsAt w v xs) (hu : IntsAt w u ys) :
    Calls Tryz.prog 49 #[v, u] w (Reads (.int .i64 (cmpL xs ys)) w) := by
  obtain ⟨p, cap, rfl, hl, hc⟩ := hv
  obtain ⟨q, ucap, rfl, hul, huc⟩ := hu
  have H := Lib.hid hc
  have HU := Lib.hid huc
  clear hc huc
  go_enter Tryz.func49, Tryz.ntmps49
  go_wp2
  go_loopw [11] (fun i wr => ∃ k : Nat, k ≤ xs.length ∧ i = .int .i64 k ∧ Hid (cmpL xs ys = cmpL (xs.drop k) (ys.drop k)) ∧ wr = w) (fun i _ => xs.length - (intOf i).toNat)
  case atStart => exact ⟨0, Nat.zero_le _, rfl, rfl, rfl⟩
  case round =>
    obtain ⟨k, hk, rfl, HR, rfl⟩ := hrel
    by_cases hlt : k < xs.length
    · have h0 := List.getElem?_eq_getElem hlt
      obtain ⟨b, off, rfl, ⟨b1, b2⟩, hcx⟩ := H.out k _ h0
      by_cases hlt2 : k < ys.length
      · have h1 := List.getElem?_eq_getElem hlt2
        obtain ⟨d, doff, rfl, ⟨d1, d2⟩, hcy⟩ := HU.out k _ h1
        have HD := Lib.hid (cmpL_drop h0 h1)
        generalize xs[k] = x at *
        generalize ys[k] = y at *
        have hI1 : (k : Int) < (xs.length : Int) := by omega
        have hI2 : (k : Int) < (ys.length : Int) := by omega
        have hI3 : (0 : Int) ≤ (k : Int) := by omega
        clear h0 h1
        go_wp2_with (first | (go_at_call 83; refine (cmpInt_any _ _ _).mono ?_; rintro e w' ⟨rfl, rfl⟩))
        · have he : cmpI x y ≠ 0 := by have h : (cmpI x y != 0) = true := (by assumption); simpa using h
          go_ret
          exact ⟨ret_i64 (by rw [HR.out, HD.out, if_neg he]), rfl⟩
        · have he : cmpI x y = 0 := by have h : (cmpI x y != 0) = false := (by assumption); simpa using h
          go_roundw
          case rel => exact ⟨k + 1, by omega, by go_num, by show _ = _; rw [HR.out, HD.out, if_pos he], trivial⟩
          case measure => simp [intOf]; omega
      · have HS := Lib.hid (cmpL_short hlt (show ys.length ≤ k by omega))
        have hI4 : (ys.length : Int) ≤ (k : Int) := by omega
        have hI5 : ¬ (k : Int) < (ys.length : Int) := by omega
        generalize xs[k] = x at *
        clear h0
        go_wp2
        go_ret
        exact ⟨ret_i64 (by rw [HR.out, HS.out]), rfl⟩
    · obtain rfl : k = xs.length := by omega
      have HE := Lib.hid (cmpL_end (xs := xs) (ys := ys) (k := xs.length) (Nat.le_refl _))
      by_cases h3 : xs.length < ys.length
      · have hI6 : (xs.length : Int) < (ys.length : Int) := by omega
        go_wp2
        go_ret
        exact ⟨ret_i64 (by rw [HR.out, HE.out, if_pos h3]), rfl⟩
      · have hI6 : ¬ (xs.length : Int) < (ys.length : Int) := by omega
        go_wp2
        go_ret
        exact ⟨ret_i64 (by rw [HR.out, HE.out, if_neg h3]), rfl⟩

end Go.Proofs.YtfilcaolgfghcaaGreat
