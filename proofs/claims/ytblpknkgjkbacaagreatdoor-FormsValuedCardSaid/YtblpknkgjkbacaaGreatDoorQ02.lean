/-
 What a name is: wbref1.Name and nest.isName say the same of every string. What a name is: wbref1.Name and nest.isName say the same of every string. The gaps of a text: blanks, line feeds and comments.
-/
import Derived.WalkLawsBesides
import Derived.Lib.Hide
import Derived.Test.YtblpknkgjkbacaaGreatDoorQ01
namespace Go.Proofs.YtblpknkgjkbacaaGreatDoor
set_option linter.unusedVariables false
open Go.RowKit
/-- A call that only computes: what it gives; the world stays. -/
def Ret (v : Value) (w : World) (e : Ending) (w' : World) : Prop := e = .returned v ∧ w = w'
/-- A call that makes memory of its own: what it gives; nothing that was there turns. -/
def Gives (v : Value) (w : World) (e : Ending) (w' : World) : Prop := e = .returned v ∧ w.grownBy w' none
theorem ret_bool {a b : Bool} (h : a = b) : Ending.returned (.bool a) = .returned (.bool b) := by rw [h]
theorem ret_int {k : IntKind} {a b : Int} (h : a = b) : Ending.returned (.int k a) = .returned (.int k b) := by rw [h]
def inB (n low high : Int) : Bool := decide (low ≤ n ∧ n ≤ high)
set_option maxHeartbeats 400000 in
theorem in_any (n low high : Int) (w : World) :
    Calls Tryz.prog 36 #[.int .i64 n, .int .i64 low, .int .i64 high] w (Ret (.bool (inB n low high)) w) := by
  go_enter Tryz.func36, Tryz.ntmps36
  go_wp2
  all_goals
    go_ret
    exact ⟨ret_bool (by simp [inB]; try omega), rfl⟩
def containsB (zs : List ByteArray) (x : ByteArray) : Bool := zs.any fun y => x.toList == y.toList
def IndexOf (zs : List ByteArray) (x : ByteArray) (w : World) (e : Ending) (w' : World) : Prop := ∃ k : Int, decide (0 ≤ k) = containsB zs x ∧ e = .returned (.int .i64 k) ∧ w = w'
theorem containsB_of {zs : List ByteArray} {x : ByteArray} {k : Nat} (h : k < zs.length) (e : (x.toList == zs[k].toList) = true) : containsB zs x = true :=
  List.any_eq_true.2 ⟨zs[k], List.getElem_mem h, e⟩
theorem containsB_snoc (zs : List ByteArray) (x : ByteArray) (k : Nat) (h : k < zs.length) : containsB (zs.take (k + 1)) x = (containsB (zs.take k) x || x.toList == zs[k].toList) := by
  unfold containsB
  rw [List.take_succ_eq_append_getElem h, List.any_append]
  simp
/-- Strings, as they lie in memory. -/
def StrsAt (w : World) (v : Value) (zs : List ByteArray) : Prop :=
  ∃ p cap, v = .slice p zs.length cap ∧ zs.length ≤ maxLen ∧ ∀ j s, zs[j]? = some s → ∃ b off, p = some ⟨b, off, none⟩ ∧ w.cell? ⟨b, off + j, none⟩ = some (.string s)
set_option maxHeartbeats 400000 in
theorem index_any (v : Value) (zs : List ByteArray) (x : ByteArray) (w : World) (hv : StrsAt w v zs) :
    Calls Tryz.prog 70 #[v, .string x] w (IndexOf zs x w) := by
  obtain ⟨p, cap, rfl, hl, hc⟩ := hv
  unfold maxLen at hl
  have HC := Lib.hid hc
  clear hc
  go_enter Tryz.func70, Tryz.ntmps70
  go_wp2
  go_loop [8] (fun i => ∃ k : Nat, k ≤ zs.length ∧ i = .int .i64 k ∧ Hid (containsB (zs.take k) x = false)) (fun i => zs.length - (intOf i).toNat)
  case atStart => exact ⟨0, Nat.zero_le _, rfl, rfl⟩
  case round =>
    obtain ⟨k, hk, rfl, H⟩ := hrel
    by_cases hlt : k < zs.length
    · obtain ⟨b, off, rfl, hcell⟩ := HC.out k _ (List.getElem?_eq_getElem hlt)
      have HS := Lib.hid (containsB_snoc zs x k hlt)
      go_wp2
      · have he : (x.toList == zs[k].toList) = true := by assumption
        go_ret
        exact ⟨k, by rw [containsB_of hlt he]; simp, rfl, rfl⟩
      · have he : (x.toList == zs[k].toList) = false := by assumption
        go_round
        case rel => exact ⟨k + 1, by omega, by go_num, by show _ = _; rw [HS.out, H.out, he]; rfl⟩
        case measure => simp [intOf]; omega
    · go_wp2
      go_ret
      exact ⟨-1, by rw [show zs.take k = zs from List.take_of_length_le (by omega)] at H; rw [H.out]; rfl, rfl, rfl⟩
set_option maxHeartbeats 400000 in
theorem contains_any (v : Value) (zs : List ByteArray) (x : ByteArray) (w : World) (hv : StrsAt w v zs) :
    Calls Tryz.prog 56 #[v, .string x] w (Ret (.bool (containsB zs x)) w) := by
  have H := Lib.hid hv
  clear hv
  go_enter Tryz.func56, Tryz.ntmps56
  go_wp2_with (go_at_call 70; refine (index_any v zs x _ H.out).mono ?_; rintro e w' ⟨k, hk, rfl, rfl⟩; have HK := Lib.hid hk; clear hk)
  go_ret
  exact ⟨ret_bool HK.out, rfl⟩
def resL : List ByteArray := [⟨#[97, 114, 114, 97, 121]⟩, ⟨#[102, 111, 114]⟩, ⟨#[105, 102]⟩, ⟨#[109, 97, 120]⟩, ⟨#[109, 105, 110]⟩]
theorem resB_eq (s : ByteArray) : containsB resL s = (s.toList == [97, 114, 114, 97, 121] || (s.toList == [102, 111, 114] || (s.toList == [105, 102] || (s.toList == [109, 97, 120] || s.toList == [109, 105, 110])))) := by
  simp only [containsB, resL, List.any_cons, List.any_nil, Bool.or_false, ByteArray.toList_eq]
set_option maxHeartbeats 400000 in
theorem isReserved_any (s : ByteArray) (w : World) :
    Calls Tryz.prog 55 #[.string s] w (Ret (.bool (containsB resL s)) w) := by
  have H := Lib.hid (resB_eq s)
  go_enter Tryz.func55, Tryz.ntmps55
  go_wp2
  all_goals try (exfalso; simp_all; done)
  all_goals
    go_ret
    exact ⟨ret_bool (by rw [H.out]; simp [*]), rfl⟩
def letterB (c : Int) : Bool := decide (97 ≤ c ∧ c ≤ 122)
def digitB (c : Int) : Bool := decide (48 ≤ c ∧ c ≤ 57)
def nameCharB (c : Int) : Bool := letterB c || digitB c || c == 95
set_option maxHeartbeats 400000 in
theorem isLetter_any (n : Int) (w : World) : Calls Tryz.prog 68 #[.int .u8 n] w (Ret (.bool (letterB n)) w) := by
  go_enter Tryz.func68, Tryz.ntmps68
  go_wp2
  all_goals
    go_ret
    exact ⟨ret_bool (by simp [letterB]; try omega), rfl⟩
set_option maxHeartbeats 400000 in
theorem isDigit_any (n : Int) (w : World) : Calls Tryz.prog 69 #[.int .u8 n] w (Ret (.bool (digitB n)) w) := by
  go_enter Tryz.func69, Tryz.ntmps69
  go_wp2
  all_goals
    go_ret
    exact ⟨ret_bool (by simp [digitB]; try omega), rfl⟩
end Go.Proofs.YtblpknkgjkbacaaGreatDoor
namespace Go.Proofs.YtblpknkgjkbacaaGreatDoor
open Go.RowKit
def okAt (s : ByteArray) (k : Nat) : Bool := if h : k < s.size then letterB s[k].toNat || (decide (0 < k) && (digitB s[k].toNat || (s[k].toNat : Int) == 95)) else false
def allOk (s : ByteArray) (k : Nat) : Bool := (List.range k).all (okAt s)
def nameB (s : ByteArray) : Bool := decide (1 ≤ s.size ∧ s.size ≤ 40) && (allOk s s.size && !containsB resL s)
theorem allOk_succ (s : ByteArray) (k : Nat) : allOk s (k + 1) = (allOk s k && okAt s k) := by simp [allOk, List.range_succ]
theorem allOk_stop {s : ByteArray} {k : Nat} (hk : k < s.size) (h : okAt s k = false) : allOk s s.size = false := by
  rw [Bool.eq_false_iff]
  intro ha
  have := (List.all_eq_true.1 ha) k (by simp [hk])
  rw [h] at this
  exact absurd this (by simp)
def NameLen (s : ByteArray) (w : World) (e : Ending) (w' : World) : Prop := ∃ k : Nat, k ≤ s.size ∧ decide (k = s.size) = allOk s s.size ∧ e = .returned (.int .i64 k) ∧ w = w'
set_option maxHeartbeats 1000000 in
theorem nameLength_any (s : ByteArray) (w : World) (hs : s.size ≤ maxLen) :
    Calls Tryz.prog 54 #[.string s] w (NameLen s w) := by
  unfold maxLen at hs
  go_enter Tryz.func54, Tryz.ntmps54
  go_wp2
  go_loop [3] (fun i => ∃ k : Nat, k ≤ s.size ∧ i = .int .i64 k ∧ Hid (allOk s k = true)) (fun i => s.size - (intOf i).toNat)
  case atStart => exact ⟨0, Nat.zero_le _, rfl, rfl⟩
  case round =>
    obtain ⟨k, hk, rfl, H⟩ := hrel
    by_cases hlt : k < s.size
    · go_wp2_with (first | (go_at_call 68; refine (isLetter_any _ _).mono ?_; rintro e w' ⟨rfl, rfl⟩) | (go_at_call 69; refine (isDigit_any _ _).mono ?_; rintro e w' ⟨rfl, rfl⟩))
      iterate 3
        · have hok : okAt s k = true := by simp_all [okAt]
          go_round
          case rel => exact ⟨k + 1, by omega, by go_num, by show _ = _; rw [allOk_succ, H.out, hok]; rfl⟩
          case measure => simp [intOf]; omega
      all_goals
        have hok : okAt s k = false := by simp_all [okAt]
        go_ret
        exact ⟨k, hk, by rw [allOk_stop hlt hok]; simp; omega, rfl, rfl⟩
    · obtain rfl : s.size = k := by omega
      go_wp2
      go_ret
      exact ⟨s.size, by omega, by rw [H.out]; simp, rfl, rfl⟩
def ncAt (s : ByteArray) (k : Nat) : Bool := if h : k < s.size then nameCharB s[k].toNat else false
theorem okAt_of_nc {s : ByteArray} {k : Nat} (h0 : okAt s 0 = true) (h : ncAt s k = true) : okAt s k = true := by
  by_cases hk : k = 0
  · rw [hk]; exact h0
  · by_cases hlt : k < s.size
    · simp [ncAt, nameCharB, hlt] at h
      simp [okAt, hlt]
      have : 0 < k := by omega
      simp [this]
      rcases h with (h | h) | h <;> simp [h]
    · simp [ncAt, hlt] at h
theorem okAt_of_not_nc {s : ByteArray} {k : Nat} (h : ncAt s k = false) : okAt s k = false := by
  by_cases hlt : k < s.size
  · simp [ncAt, nameCharB, hlt] at h
    simp [okAt, hlt, h]
  · simp [okAt, hlt]
theorem okAt_zero {s : ByteArray} (h : 0 < s.size) (h1 : 97 ≤ (s[0].toNat : Int)) (h2 : (s[0].toNat : Int) ≤ 122) : okAt s 0 = true := by
  simp [okAt, letterB, h]; omega
theorem okAt_zero_not {s : ByteArray} (h : 0 < s.size) (h1 : (s[0].toNat : Int) < 97 ∨ 122 < (s[0].toNat : Int)) : okAt s 0 = false := by
  simp [okAt, letterB, h]; omega
theorem ncAt_eq {s : ByteArray} {k : Nat} (h : k < s.size) : ncAt s k = nameCharB s[k].toNat := by simp [ncAt, h]
theorem nameB_res {s : ByteArray} (h0 : 1 ≤ s.size) (h1 : s.size ≤ 40) (ha : allOk s s.size = true) : nameB s = !containsB resL s := by simp [nameB, h0, h1, ha]
theorem nameB_bad {s : ByteArray} (ha : allOk s s.size = false) : nameB s = false := by simp [nameB, ha]
theorem nameB_size {s : ByteArray} (h : ¬ (1 ≤ s.size ∧ s.size ≤ 40)) : nameB s = false := by simp [nameB, h]
set_option maxHeartbeats 1000000 in
theorem isName_any (s : ByteArray) (w : World) (hs : s.size ≤ maxLen) :
    Calls Tryz.prog 35 #[.string s] w (Ret (.bool (nameB s)) w) := by
  have hs' := hs
  unfold maxLen at hs'
  go_enter Tryz.func35, Tryz.ntmps35
  go_wp2_with (first | (go_at_call 54; refine (nameLength_any _ _ hs).mono ?_; rintro e w' ⟨k, hk, hd, rfl, rfl⟩; have HD := Lib.hid hd; clear hd) | (go_at_call 55; refine (isReserved_any _ _).mono ?_; rintro e w' ⟨rfl, rfl⟩))
  · have hk' : k = s.size := by omega
    have ha : allOk s s.size = true := by rw [← HD.out]; simp [hk']
    go_ret
    exact ⟨ret_bool (nameB_res (by omega) (by omega) ha).symm, rfl⟩
  · have hk' : ¬ k = s.size := by omega
    have ha : allOk s s.size = false := by rw [← HD.out]; simp [hk']
    go_ret
    exact ⟨ret_bool (nameB_bad ha).symm, rfl⟩
  all_goals
    go_ret
    exact ⟨ret_bool (nameB_size (by omega)).symm, rfl⟩
theorem contains_lit (zs : List ByteArray) (x : ByteArray) (T : TypeId) (w : World) (hl : zs.length ≤ maxLen) :
    Calls Tryz.prog 56 #[.slice (some ⟨w.heap.size, 0, none⟩) zs.length zs.length, .string x] (w.alloc (.cells (zs.map Value.string).toArray T))
      (Ret (.bool (containsB zs x)) (w.alloc (.cells (zs.map Value.string).toArray T))) :=
  contains_any _ zs x _ ⟨_, _, rfl, hl, fun j s hj => ⟨_, 0, rfl, by
    obtain ⟨h, rfl⟩ := List.getElem?_eq_some_iff.1 hj
    simp [h]⟩⟩
set_option maxHeartbeats 1000000 in
theorem name_any (s : ByteArray) (w : World) (hs : s.size ≤ maxLen) :
    Calls Tryz.prog 37 #[.string s] w (Gives (.bool (nameB s)) w) := by
  have hs' := hs
  unfold maxLen at hs'
  by_cases hb : 1 ≤ s.size ∧ s.size ≤ 40
  · obtain ⟨hb1, hb2⟩ := hb
    have hin : inB s.size 1 40 = true := by simp [inB]; omega
    go_enter Tryz.func37, Tryz.ntmps37
    go_wp2_with (first | (go_at_call 36; refine (in_any _ _ _ _).mono ?_; rintro e w' ⟨rfl, rfl⟩) | (go_at_call 56; refine (contains_lit resL _ _ _ (by decide)).mono ?_; rintro e w' ⟨rfl, rfl⟩))
    · go_ret
      exact ⟨ret_bool (by simp_all [nameB]), World.grownBy_alloc _ _ _⟩
    · have h0 : okAt s 0 = false := okAt_zero_not hb1 (by omega)
      go_ret
      exact ⟨ret_bool (nameB_bad (allOk_stop hb1 h0)).symm, World.grownBy_alloc _ _ _⟩
    · have h0 : Hid (okAt s 0 = true) := okAt_zero hb1 (by omega) (by omega)
      have hres : Hid (containsB resL s = false) := by show _ = _; simpa using ‹¬ containsB resL s = true›
      go_loop [26] (fun i => ∃ k : Nat, k ≤ s.size ∧ i = .int .i64 k ∧ Hid (allOk s k = true)) (fun i => s.size - (intOf i).toNat)
      case atStart => exact ⟨0, Nat.zero_le _, rfl, rfl⟩
      case round =>
        obtain ⟨k, hk, rfl, H⟩ := hrel
        by_cases hlt : k < s.size
        · have hnc := Lib.hid (ncAt_eq hlt)
          cases hb : nameCharB s[k].toNat
          · have hok := Lib.hid (okAt_of_not_nc (hnc.out.trans hb))
            simp [nameCharB, letterB, digitB] at hb
            obtain ⟨⟨q1, q2⟩, q3⟩ := hb
            have q4 : ((s[k].toNat : Int) == 95) = false := by simpa using q3
            go_wp2
            all_goals first
              | (go_ret; exact ⟨ret_bool (nameB_bad (allOk_stop hlt hok.out)).symm, World.grownBy_alloc _ _ _⟩)
              | (exfalso; simp at *; omega)
          · have hok := Lib.hid (okAt_of_nc h0.out (hnc.out.trans hb))
            simp [nameCharB, letterB, digitB] at hb
            go_wp2
            all_goals first
              | (exfalso; simp at *; omega)
              | (go_round
                 case rel => exact ⟨k + 1, by omega, by go_num, by show _ = _; rw [allOk_succ, H.out, hok.out]; rfl⟩
                 case measure => simp [intOf]; omega)
        · obtain rfl : s.size = k := by omega
          go_wp2
          go_ret
          exact ⟨ret_bool (by rw [nameB_res hb1 hb2 H.out, hres.out]; rfl), World.grownBy_alloc _ _ _⟩
    · have h0 : okAt s 0 = false := okAt_zero_not hb1 (by omega)
      go_ret
      exact ⟨ret_bool (nameB_bad (allOk_stop hb1 h0)).symm, World.grownBy_alloc _ _ _⟩
  · have hin : inB s.size 1 40 = false := by simp [inB]; omega
    go_enter Tryz.func37, Tryz.ntmps37
    go_wp2_with (first | (go_at_call 36; refine (in_any _ _ _ _).mono ?_; rintro e w' ⟨rfl, rfl⟩))
    go_ret
    exact ⟨ret_bool (nameB_size hb).symm, grownBy_refl _ _⟩
end Go.Proofs.YtblpknkgjkbacaaGreatDoor
namespace Go.Proofs.YtblpknkgjkbacaaGreatDoor
open Go.RowKit
/-- How many bytes of a gap stand at the beginning; the first argument: within a comment. -/
def gapL : Bool → List UInt8 → Nat
  | _, [] => 0
  | true, b :: r => if (b.toNat : Int) = 10 then 1 + gapL false r else 1 + gapL true r
  | false, b :: r => if (b.toNat : Int) = 32 ∨ (b.toNat : Int) = 10 then 1 + gapL false r else if (b.toNat : Int) = 35 then 1 + gapL true r else 0
def gapAt (c : Bool) (s : ByteArray) (k : Nat) : Nat := gapL c (s.data.toList.drop k)
theorem gap_end (c : Bool) {s : ByteArray} {k : Nat} (h : s.size ≤ k) : gapAt c s k = 0 := by
  unfold gapAt
  rw [List.drop_eq_nil_of_le (by simpa using h)]
  cases c <;> rfl
theorem drop_byte {s : ByteArray} {k : Nat} (h : k < s.size) : s.data.toList.drop k = s[k] :: s.data.toList.drop (k + 1) := by
  rw [List.drop_eq_getElem_cons (by simpa using h)]
  rfl
theorem gap_out {s : ByteArray} {k : Nat} (h : k < s.size) : gapAt false s k = if (s[k].toNat : Int) = 32 ∨ (s[k].toNat : Int) = 10 then 1 + gapAt false s (k + 1) else if (s[k].toNat : Int) = 35 then 1 + gapAt true s (k + 1) else 0 := by
  unfold gapAt
  rw [drop_byte h]
  rfl
theorem gap_in {s : ByteArray} {k : Nat} (h : k < s.size) : gapAt true s k = if (s[k].toNat : Int) = 10 then 1 + gapAt false s (k + 1) else 1 + gapAt true s (k + 1) := by
  unfold gapAt
  rw [drop_byte h]
  rfl
theorem gapL_le : ∀ (c : Bool) (l : List UInt8), gapL c l ≤ l.length
  | c, [] => by cases c <;> exact Nat.zero_le _
  | true, b :: r => by
    have h1 := gapL_le true r
    have h2 := gapL_le false r
    unfold gapL
    split <;> simp only [List.length_cons] <;> omega
  | false, b :: r => by
    have h1 := gapL_le true r
    have h2 := gapL_le false r
    unfold gapL
    split
    · simp only [List.length_cons]; omega
    · split <;> simp only [List.length_cons] <;> omega
theorem gap_le (c : Bool) {s : ByteArray} {k : Nat} (h : k ≤ s.size) : k + gapAt c s k ≤ s.size := by
  have h1 := gapL_le c (s.data.toList.drop k)
  have h2 : (s.data.toList.drop k).length = s.size - k := by simp
  unfold gapAt
  omega
set_option maxHeartbeats 1000000 in
theorem skipGap_any (s : ByteArray) (k : Nat) (w : World) (hs : s.size ≤ maxLen) (hk : k ≤ s.size) :
    Calls Tryz.prog 126 #[.string s, .int .i64 k] w (Ret (.int .i64 ((k + gapAt false s k : Nat) : Int)) w) := by
  unfold maxLen at hs
  generalize hG : k + gapAt false s k = G
  go_enter Tryz.func126, Tryz.ntmps126
  go_wp2
  go_loop [1] (fun i => ∃ j : Nat, j ≤ s.size ∧ i = .int .i64 j ∧ Hid (j + gapAt false s j = G)) (fun i => s.size - (intOf i).toNat)
  case atStart => exact ⟨k, hk, rfl, hG⟩
  case round =>
    obtain ⟨j, hj, rfl, H⟩ := hrel
    by_cases hlt : j < s.size
    · have hgo := Lib.hid (gap_out hlt)
      have hgi := Lib.hid (gap_in hlt)
      go_wp2
      iterate 2
        · simp only [beq_iff_eq, beq_eq_false_iff_ne, ne_eq] at *
          have h2 : gapAt false s j = 1 + gapAt false s (j + 1) := by rw [hgo.out, if_pos (by omega)]
          refine ⟨⟨j + 1, by omega, by go_num, ?_⟩, by simp [intOf]; omega⟩
          have h3 := H.out
          show j + 1 + gapAt false s (j + 1) = G
          omega
      · go_loop [1] (fun i => ∃ n : Nat, j ≤ n ∧ n ≤ s.size ∧ i = .int .i64 n ∧ Hid (n + gapAt true s n = G)) (fun i => s.size - (intOf i).toNat)
        case atStart =>
          refine ⟨j, Nat.le_refl _, hj, rfl, ?_⟩
          simp only [beq_iff_eq, beq_eq_false_iff_ne, ne_eq] at *
          have h2 := hgo.out
          have h4 := hgi.out
          rw [if_neg (by omega), if_pos (by omega)] at h2
          rw [if_neg (by omega)] at h4
          have h3 := H.out
          show j + gapAt true s j = G
          omega
        case round =>
          obtain ⟨n, hn0, hn, rfl, HN⟩ := hrel
          by_cases hln : n < s.size
          · have hgn := Lib.hid (gap_in hln)
            have hgm := Lib.hid (gap_out hln)
            go_wp2
            · simp only [beq_iff_eq, beq_eq_false_iff_ne, bne_iff_ne, ne_eq] at *
              have h2 : gapAt true s n = 1 + gapAt true s (n + 1) := by rw [hgn.out, if_neg (by omega)]
              go_round
              case rel =>
                refine ⟨n + 1, by omega, by omega, by go_num, ?_⟩
                have h3 := HN.out
                show n + 1 + gapAt true s (n + 1) = G
                omega
              case measure => simp [intOf]; omega
            · simp only [beq_iff_eq, beq_eq_false_iff_ne, bne_eq_false_iff_eq, ne_eq] at *
              have h2 : gapAt true s n = 1 + gapAt false s (n + 1) := by rw [hgn.out, if_pos (by omega)]
              have h5 : gapAt false s n = 1 + gapAt false s (n + 1) := by rw [hgm.out, if_pos (by omega)]
              have hne : n ≠ j := by rintro rfl; omega
              refine ⟨⟨n, hn, rfl, ?_⟩, by simp [intOf]; omega⟩
              have h3 := HN.out
              show n + gapAt false s n = G
              omega
          · obtain rfl : s.size = n := by omega
            go_wp2
            refine ⟨⟨s.size, by omega, rfl, ?_⟩, by simp [intOf]; omega⟩
            have h3 := HN.out
            rw [gap_end true (Nat.le_refl _)] at h3
            show s.size + gapAt false s s.size = G
            rw [gap_end false (Nat.le_refl _)]
            exact h3
      · simp only [beq_eq_false_iff_ne, ne_eq] at *
        have h2 := hgo.out
        rw [if_neg (by omega), if_neg (by omega)] at h2
        have h3 := H.out
        go_ret
        exact ⟨by rw [← h3, h2]; rfl, rfl⟩
    · obtain rfl : s.size = j := by omega
      go_wp2
      go_ret
      have := H.out
      rw [gap_end false (Nat.le_refl _)] at this
      exact ⟨by rw [← this]; rfl, rfl⟩
end Go.Proofs.YtblpknkgjkbacaaGreatDoor
