/-
 Lists that are compared.
-/
import Derived.Test.YtjgddagladmgoaaPoints
namespace Go.Proofs.Ytjgddagladmgoaa
open Go.RowKit

theorem eq_of_take {α : Type} {xs ys : List α} (hl : xs.length = ys.length) {k : Nat} (h : xs.take k = ys.take k) (hk : xs.length ≤ k) : xs = ys := by
  rwa [List.take_of_length_le hk, List.take_of_length_le (by omega)] at h
theorem ne_of_get {α : Type} {xs ys : List α} {k : Nat} {a b : α} (ha : xs[k]? = some a) (hb : ys[k]? = some b) (h : a ≠ b) : xs ≠ ys := by
  intro e
  subst e
  rw [ha] at hb
  exact h (Option.some.inj hb)
theorem take_eq_succ {α : Type} {xs ys : List α} {k : Nat} {a : α} (h : xs.take k = ys.take k) (ha : xs[k]? = some a) (hb : ys[k]? = some a) : xs.take (k + 1) = ys.take (k + 1) := by
  rw [List.take_add_one, List.take_add_one, h, ha, hb]

def sameInts (xs ys : List Int) : Bool := decide (xs = ys)

set_option maxHeartbeats 1000000 in
theorem equal_any (v u : Value) (xs ys : List Int) (w : World) (hv : IntsAt w v xs) (hu : IntsAt w u ys) :
    Calls Try.prog 18 #[v, u] w (GivesDrawn (.bool (sameInts xs ys)) w) := by
  obtain ⟨p, cap, rfl, hl, hc⟩ := hv
  obtain ⟨q, ucap, rfl, hul, huc⟩ := hu
  have H := Lib.hid hc
  have HU := Lib.hid huc
  clear hc huc
  by_cases hlen : xs.length = ys.length
  · have HL := Lib.hid hlen
    have hq : ((xs.length : Int) != (ys.length : Int)) = false := by simp [hlen]
    clear hlen
    go_enter Try.func18, Try.ntmps18
    go_wp2
    go_loopw [13] (fun i wr => ∃ k : Nat, k ≤ xs.length ∧ i = .int .i64 k ∧ Hid (xs.take k = ys.take k) ∧ Hid (w.grownBy wr none)) (fun i _ => xs.length - (intOf i).toNat)
    case atStart => exact ⟨0, Nat.zero_le _, rfl, rfl, grownBy_refl _ _⟩
    case round =>
      obtain ⟨k, hk, rfl, HR, HG⟩ := hrel
      by_cases hlt : k < xs.length
      · have hlt2 : k < ys.length := by have := HL.out; omega
        have h0 := List.getElem?_eq_getElem hlt
        have h1 := List.getElem?_eq_getElem hlt2
        obtain ⟨b, off, rfl, ⟨b1, b2⟩, hcx⟩ := H.out k _ h0
        obtain ⟨d, doff, rfl, ⟨d1, d2⟩, hcy⟩ := HU.out k _ h1
        have hcx' := World.grownBy.cell HG.out hcx (by simp)
        have hcy' := World.grownBy.cell HG.out hcy (by simp)
        have HN := Lib.hid (fun h => ne_of_get h0 h1 h)
        have HT := Lib.hid (fun (e : xs[k] = ys[k]) => take_eq_succ HR.out h0 (by rw [h1, e]))
        generalize xs[k] = x at *
        generalize ys[k] = y at *
        have hI1 : (k : Int) < (xs.length : Int) := by omega
        have hI2 : (k : Int) < (ys.length : Int) := by omega
        have hI3 : (0 : Int) ≤ (k : Int) := by omega
        clear h0 h1 hcx hcy
        go_wp2
        go_quiet (fail)
        go_wp2
        · have he : x ≠ y := by have h : (x != y) = true := (by assumption); simpa using h
          go_ret
          exact ⟨ret_bool (by simp [sameInts, HN.out he]), grownBy_trans HG.out (grownBy_drewN _ _ _)⟩
        · have he : x = y := by have h : (x != y) = false := (by assumption); simpa using h
          go_roundw
          case rel => exact ⟨k + 1, by omega, by go_num, HT.out he, grownBy_trans HG.out (grownBy_drewN _ _ _)⟩
          case measure => simp [intOf]; omega
      · go_wp2
        go_ret
        exact ⟨ret_bool (by simp [sameInts, eq_of_take HL.out HR.out (by omega)]), HG.out⟩
  · have hq : ((xs.length : Int) != (ys.length : Int)) = true := by simp; omega
    have hne : xs ≠ ys := fun e => hlen (by rw [e])
    have HN := Lib.hid hne
    clear hlen hne
    go_enter Try.func18, Try.ntmps18
    go_wp2
    go_ret
    exact ⟨ret_bool (by simp [sameInts, HN.out]), grownBy_refl _ _⟩

def sameRows (xs ys : List (List Int)) : Bool := decide (xs = ys)

set_option maxHeartbeats 1000000 in
theorem equalFunc_any (v u : Value) (xs ys : List (List Int)) (w : World) (hv : RowsAt w v xs) (hu : RowsAt w u ys) :
    Calls Try.prog 45 #[v, u, .func (.func 18) #[] #[]] w (GivesDrawn (.bool (sameRows xs ys)) w) := by
  obtain ⟨p, cap, rfl, hl, hc⟩ := hv
  obtain ⟨q, ucap, rfl, hul, huc⟩ := hu
  have H := Lib.hid hc
  have HU := Lib.hid huc
  clear hc huc
  by_cases hlen : xs.length = ys.length
  · have HL := Lib.hid hlen
    have hq : ((xs.length : Int) != (ys.length : Int)) = false := by simp [hlen]
    clear hlen
    go_enter Try.func45, Try.ntmps45
    go_wp2
    go_loopw [17] (fun i wr => ∃ k : Nat, k ≤ xs.length ∧ i = .int .i64 k ∧ Hid (xs.take k = ys.take k) ∧ Hid (w.grownBy wr none)) (fun i _ => xs.length - (intOf i).toNat)
    case atStart => exact ⟨0, Nat.zero_le _, rfl, rfl, grownBy_refl _ _⟩
    case round =>
      obtain ⟨k, hk, rfl, HR, HG⟩ := hrel
      by_cases hlt : k < xs.length
      · have hlt2 : k < ys.length := by have := HL.out; omega
        have h0 := List.getElem?_eq_getElem hlt
        have h1 := List.getElem?_eq_getElem hlt2
        obtain ⟨b, off, rv, rfl, hcx, hix⟩ := H.out k _ h0
        obtain ⟨d, doff, ru, rfl, hcy, hiy⟩ := HU.out k _ h1
        have hcx' := World.grownBy.cell HG.out hcx (by simp)
        have hcy' := World.grownBy.cell HG.out hcy (by simp)
        have HN := Lib.hid (fun h => ne_of_get h0 h1 h)
        have HT := Lib.hid (fun (e : xs[k] = ys[k]) => take_eq_succ HR.out h0 (by rw [h1, e]))
        have HC := Lib.hid (equal_any rv ru xs[k] ys[k] wr (hix.kept HG.out) (hiy.kept HG.out))
        generalize xs[k] = x at *
        generalize ys[k] = y at *
        clear h0 h1 hcx hcy hix hiy
        go_wp2_with (first | (go_at_call 18; refine HC.out.mono ?_; rintro e w' ⟨rfl, hg1⟩; have G1 := Lib.hid hg1; clear hg1))
        · have he : x ≠ y := by have h : (!sameInts x y) = true := (by assumption); simpa [sameInts] using h
          go_ret
          exact ⟨ret_bool (by simp [sameRows, HN.out he]), grownBy_trans HG.out G1.out⟩
        · have he : x = y := by have h : (!sameInts x y) = false := (by assumption); simpa [sameInts] using h
          go_roundw
          case rel => exact ⟨k + 1, by omega, by go_num, HT.out he, grownBy_trans HG.out G1.out⟩
          case measure => simp [intOf]; omega
      · go_wp2
        go_ret
        exact ⟨ret_bool (by simp [sameRows, eq_of_take HL.out HR.out (by omega)]), HG.out⟩
  · have hq : ((xs.length : Int) != (ys.length : Int)) = true := by simp; omega
    have hne : xs ≠ ys := fun e => hlen (by rw [e])
    have HN := Lib.hid hne
    clear hlen hne
    go_enter Try.func45, Try.ntmps45
    go_wp2
    go_ret
    exact ⟨ret_bool (by simp [sameRows, HN.out]), grownBy_refl _ _⟩

theorem sameLists_any (v u : Value) (xs ys : List (List Int)) (w : World) (hv : RowsAt w v xs) (hu : RowsAt w u ys) :
    Calls Try.prog 17 #[v, u] w (GivesDrawn (.bool (sameRows xs ys)) w) := by
  have HV := Lib.hid hv
  have HU := Lib.hid hu
  clear hv hu
  go_enter Try.func17, Try.ntmps17
  go_wp2_with (first | (go_at_call 45; refine (equalFunc_any v u xs ys _ HV.out HU.out).mono ?_; rintro e w' ⟨rfl, hg1⟩; have G1 := Lib.hid hg1; clear hg1))
  go_ret
  exact ⟨rfl, G1.out⟩

theorem when_any (b : Bool) (x : Int) (w : World) : Calls Try.prog 13 #[.bool b, .int .i64 x] w (Ret (.int .i64 (if b then x else 0)) w) := by
  cases b
  all_goals
    go_enter Try.func13, Try.ntmps13
    go_wp2
    go_ret
    exact ⟨rfl, rfl⟩

def first2 (a b : Int) : Int := if a == 0 then b else a

set_option maxHeartbeats 1000000 in
/-- The first error of two. -/
theorem errs_two (a b : Int) (w : World) : Calls Try.prog 12 #[.slice (some ⟨w.heap.size, 0, none⟩) 2 2] (w.alloc (.cells #[.int .i64 a, .int .i64 b] 32)) (Ret (.int .i64 (first2 a b)) (w.alloc (.cells #[.int .i64 a, .int .i64 b] 32))) := by
  have c0 : (w.alloc (.cells #[.int .i64 a, .int .i64 b] 32)).cell? ⟨w.heap.size, 0, none⟩ = some (.int .i64 a) := by simp
  have c1 : (w.alloc (.cells #[.int .i64 a, .int .i64 b] 32)).cell? ⟨w.heap.size, 1, none⟩ = some (.int .i64 b) := by simp
  have HW := Lib.hid (show w.alloc (.cells #[.int .i64 a, .int .i64 b] 32) = w.alloc (.cells #[.int .i64 a, .int .i64 b] 32) from rfl)
  generalize hW : w.alloc (.cells #[.int .i64 a, .int .i64 b] 32) = W at *
  generalize w.heap.size = B at *
  clear HW hW
  go_enter Try.func12, Try.ntmps12
  go_wp2
  go_loop [7] (fun i => ∃ k : Nat, k ≤ 2 ∧ i = .int .i64 k ∧ (1 ≤ k → Hid (a = 0)) ∧ (2 ≤ k → Hid (b = 0))) (fun i => 2 - (intOf i).toNat)
  case atStart => exact ⟨0, by omega, rfl, fun h => by omega, fun h => by omega⟩
  case round =>
    obtain ⟨k, hk, rfl, h1, h2⟩ := hrel
    rcases (show k = 0 ∨ k = 1 ∨ k = 2 by omega) with rfl | rfl | rfl
    · go_wp2
      · have he : a ≠ 0 := by have h : (a != 0) = true := (by assumption); simpa using h
        go_ret
        exact ⟨ret_i64 (by simp [first2, he]), rfl⟩
      · have he : a = 0 := by have h : (a != 0) = false := (by assumption); simpa using h
        go_round
        case rel => exact ⟨1, by omega, rfl, fun _ => he, fun h => by omega⟩
        case measure => simp [intOf]
    · have ha := Lib.hid (h1 (by omega)).out
      clear h1 h2
      go_wp2
      · have he : b ≠ 0 := by have h : (b != 0) = true := (by assumption); simpa using h
        go_ret
        exact ⟨ret_i64 (by rw [ha.out]; rfl), rfl⟩
      · have he : b = 0 := by have h : (b != 0) = false := (by assumption); simpa using h
        go_round
        case rel => exact ⟨2, by omega, rfl, fun _ => ha.out, fun _ => he⟩
        case measure => simp [intOf]
    · have ha := Lib.hid (h1 (by omega)).out
      have hb := Lib.hid (h2 (by omega)).out
      clear h1 h2
      go_wp2
      go_ret
      exact ⟨ret_i64 (by rw [ha.out, hb.out]; rfl), rfl⟩

end Go.Proofs.Ytjgddagladmgoaa
