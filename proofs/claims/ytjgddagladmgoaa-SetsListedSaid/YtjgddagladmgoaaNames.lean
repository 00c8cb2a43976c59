/-
 What a name is: wbref1.Name and nest.isName say the same of every string.
-/
import Derived.Test.YtjgddagladmgoaaName
namespace Go.Proofs.Ytjgddagladmgoaa
open Go.RowKit

def okAt (s : ByteArray) (k : Nat) : Bool := if h : k < s.size then letterB s[k].toNat || (decide (0 < k) && (digitB s[k].toNat || (s[k].toNat : Int) == 95)) else false
def allOk (s : ByteArray) (k : Nat) : Bool := (List.range k).all (okAt s)
def nameB (s : ByteArray) : Bool := decide (1 ≤ s.size ∧ s.size ≤ 40) && (allOk s s.size && !containsB resL s)

theorem allOk_succ (s : ByteArray) (k : Nat) : allOk s (k + 1) = (allOk s k && okAt s k) := by simp [allOk, List.range_succ]
theorem allOk_stop {s : ByteArray} {k : Nat} (hk : k < s.size) (h : okAt s k = false) : allOk s s.size = false := by
  rw [Bool.eq_false_iff]
  intro ha
  have := (List.all_eq_true.1 ha) k (by simp [hk])
  rw [h] at this
  exact absurd this (by simp)

def NameLen (s : ByteArray) (w : World) (e : Ending) (w' : World) : Prop := ∃ k : Nat, k ≤ s.size ∧ decide (k = s.size) = allOk s s.size ∧ e = .returned (.int .i64 k) ∧ w = w'

set_option maxHeartbeats 1000000 in
theorem nameLength_any (s : ByteArray) (w : World) (hs : s.size ≤ maxLen) :
    Calls Try.prog 73 #[.string s] w (NameLen s w) := by
  unfold maxLen at hs
  go_enter Try.func73, Try.ntmps73
  go_wp2
  go_loop [3] (fun i => ∃ k : Nat, k ≤ s.size ∧ i = .int .i64 k ∧ Hid (allOk s k = true)) (fun i => s.size - (intOf i).toNat)
  case atStart => exact ⟨0, Nat.zero_le _, rfl, rfl⟩
  case round =>
    obtain ⟨k, hk, rfl, H⟩ := hrel
    by_cases hlt : k < s.size
    · go_wp2_with (first | (go_at_call 75; refine (isLetter_any _ _).mono ?_; rintro e w' ⟨rfl, rfl⟩) | (go_at_call 76; refine (isDigit_any _ _).mono ?_; rintro e w' ⟨rfl, rfl⟩))
      iterate 3
        · have hok : okAt s k = true := by simp_all [okAt]
          go_round
          case rel => exact ⟨k + 1, by omega, by go_num, by show _ = _; rw [allOk_succ, H.out, hok]; rfl⟩
          case measure => simp [intOf]; omega
      all_goals
        have hok : okAt s k = false := by simp_all [okAt]
        go_ret
        exact ⟨k, hk, by rw [allOk_stop hlt hok]; simp; omega, rfl, rfl⟩
    · obtain rfl : s.size = k := by omega
      go_wp2
      go_ret
      exact ⟨s.size, by omega, by rw [H.out]; simp, rfl, rfl⟩

def ncAt (s : ByteArray) (k : Nat) : Bool := if h : k < s.size then nameCharB s[k].toNat else false
theorem okAt_of_nc {s : ByteArray} {k : Nat} (h0 : okAt s 0 = true) (h : ncAt s k = true) : okAt s k = true := by
  by_cases hk : k = 0
  · rw [hk]; exact h0
  · by_cases hlt : k < s.size
    · simp [ncAt, nameCharB, hlt] at h
      simp [okAt, hlt]
      have : 0 < k := by omega
      simp [this]
      rcases h with (h | h) | h <;> simp [h]
    · simp [ncAt, hlt] at h
theorem okAt_of_not_nc {s : ByteArray} {k : Nat} (h : ncAt s k = false) : okAt s k = false := by
  by_cases hlt : k < s.size
  · simp [ncAt, nameCharB, hlt] at h
    simp [okAt, hlt, h]
  · simp [okAt, hlt]
theorem okAt_zero {s : ByteArray} (h : 0 < s.size) (h1 : 97 ≤ (s[0].toNat : Int)) (h2 : (s[0].toNat : Int) ≤ 122) : okAt s 0 = true := by
  simp [okAt, letterB, h]; omega
theorem okAt_zero_not {s : ByteArray} (h : 0 < s.size) (h1 : (s[0].toNat : Int) < 97 ∨ 122 < (s[0].toNat : Int)) : okAt s 0 = false := by
  simp [okAt, letterB, h]; omega
theorem ncAt_eq {s : ByteArray} {k : Nat} (h : k < s.size) : ncAt s k = nameCharB s[k].toNat := by simp [ncAt, h]

theorem nameB_res {s : ByteArray} (h0 : 1 ≤ s.size) (h1 : s.size ≤ 40) (ha : allOk s s.size = true) : nameB s = !containsB resL s := by simp [nameB, h0, h1, ha]
theorem nameB_bad {s : ByteArray} (ha : allOk s s.size = false) : nameB s = false := by simp [nameB, ha]
theorem nameB_size {s : ByteArray} (h : ¬ (1 ≤ s.size ∧ s.size ≤ 40)) : nameB s = false := by simp [nameB, h]

set_option maxHeartbeats 1000000 in
theorem isName_any (s : ByteArray) (w : World) (hs : s.size ≤ maxLen) :
    Calls Try.prog 72 #[.string s] w (Ret (.bool (nameB s)) w) := by
  have hs' := hs
  unfold maxLen at hs'
  go_enter Try.func72, Try.ntmps72
  go_wp2_with (first | (go_at_call 73; refine (nameLength_any _ _ hs).mono ?_; rintro e w' ⟨k, hk, hd, rfl, rfl⟩; have HD := Lib.hid hd; clear hd) | (go_at_call 74; refine (isReserved_any _ _).mono ?_; rintro e w' ⟨rfl, rfl⟩))
  · have hk' : k = s.size := by omega
    have ha : allOk s s.size = true := by rw [← HD.out]; simp [hk']
    go_ret
    exact ⟨ret_bool (nameB_res (by omega) (by omega) ha).symm, rfl⟩
  · have hk' : ¬ k = s.size := by omega
    have ha : allOk s s.size = false := by rw [← HD.out]; simp [hk']
    go_ret
    exact ⟨ret_bool (nameB_bad ha).symm, rfl⟩
  all_goals
    go_ret
    exact ⟨ret_bool (nameB_size (by omega)).symm, rfl⟩

theorem contains_lit (zs : List ByteArray) (x : ByteArray) (T : TypeId) (w : World) (hl : zs.length ≤ maxLen) :
    Calls Try.prog 27 #[.slice (some ⟨w.heap.size, 0, none⟩) zs.length zs.length, .string x] (w.alloc (.cells (zs.map Value.string).toArray T))
      (Ret (.bool (containsB zs x)) (w.alloc (.cells (zs.map Value.string).toArray T))) :=
  contains_any _ zs x _ ⟨_, _, rfl, hl, fun j s hj => ⟨_, 0, rfl, by
    obtain ⟨h, rfl⟩ := List.getElem?_eq_some_iff.1 hj
    simp [h]⟩⟩

set_option maxHeartbeats 1000000 in
theorem name_any (s : ByteArray) (w : World) (hs : s.size ≤ maxLen) :
    Calls Try.prog 26 #[.string s] w (Gives (.bool (nameB s)) w) := by
  have hs' := hs
  unfold maxLen at hs'
  by_cases hb : 1 ≤ s.size ∧ s.size ≤ 40
  · obtain ⟨hb1, hb2⟩ := hb
    have hin : inB s.size 1 40 = true := by simp [inB]; omega
    go_enter Try.func26, Try.ntmps26
    go_wp2_with (first | (go_at_call 28; refine (in_any _ _ _ _).mono ?_; rintro e w' ⟨rfl, rfl⟩) | (go_at_call 27; refine (contains_lit resL _ _ _ (by decide)).mono ?_; rintro e w' ⟨rfl, rfl⟩))
    · go_ret
      exact ⟨ret_bool (by simp_all [nameB]), World.grownBy_alloc _ _ _⟩
    · have h0 : okAt s 0 = false := okAt_zero_not hb1 (by omega)
      go_ret
      exact ⟨ret_bool (nameB_bad (allOk_stop hb1 h0)).symm, World.grownBy_alloc _ _ _⟩
    · have h0 : Hid (okAt s 0 = true) := okAt_zero hb1 (by omega) (by omega)
      have hres : Hid (containsB resL s = false) := by show _ = _; simpa using ‹¬ containsB resL s = true›
      go_loop [26] (fun i => ∃ k : Nat, k ≤ s.size ∧ i = .int .i64 k ∧ Hid (allOk s k = true)) (fun i => s.size - (intOf i).toNat)
      case atStart => exact ⟨0, Nat.zero_le _, rfl, rfl⟩
      case round =>
        obtain ⟨k, hk, rfl, H⟩ := hrel
        by_cases hlt : k < s.size
        · have hnc := Lib.hid (ncAt_eq hlt)
          cases hb : nameCharB s[k].toNat
          · have hok := Lib.hid (okAt_of_not_nc (hnc.out.trans hb))
            simp [nameCharB, letterB, digitB] at hb
            obtain ⟨⟨q1, q2⟩, q3⟩ := hb
            have q4 : ((s[k].toNat : Int) == 95) = false := by simpa using q3
            go_wp2
            all_goals first
              | (go_ret; exact ⟨ret_bool (nameB_bad (allOk_stop hlt hok.out)).symm, World.grownBy_alloc _ _ _⟩)
              | (exfalso; simp at *; omega)
          · have hok := Lib.hid (okAt_of_nc h0.out (hnc.out.trans hb))
            simp [nameCharB, letterB, digitB] at hb
            go_wp2
            all_goals first
              | (exfalso; simp at *; omega)
              | (go_round
                 case rel => exact ⟨k + 1, by omega, by go_num, by show _ = _; rw [allOk_succ, H.out, hok.out]; rfl⟩
                 case measure => simp [intOf]; omega)
        · obtain rfl : s.size = k := by omega
          go_wp2
          go_ret
          exact ⟨ret_bool (by rw [nameB_res hb1 hb2 H.out, hres.out]; rfl), World.grownBy_alloc _ _ _⟩
    · have h0 : okAt s 0 = false := okAt_zero_not hb1 (by omega)
      go_ret
      exact ⟨ret_bool (nameB_bad (allOk_stop hb1 h0)).symm, World.grownBy_alloc _ _ _⟩
  · have hin : inB s.size 1 40 = false := by simp [inB]; omega
    go_enter Try.func26, Try.ntmps26
    go_wp2_with (first | (go_at_call 28; refine (in_any _ _ _ _).mono ?_; rintro e w' ⟨rfl, rfl⟩))
    go_ret
    exact ⟨ret_bool (nameB_size hb).symm, grownBy_refl _ _⟩

end Go.Proofs.Ytjgddagladmgoaa
