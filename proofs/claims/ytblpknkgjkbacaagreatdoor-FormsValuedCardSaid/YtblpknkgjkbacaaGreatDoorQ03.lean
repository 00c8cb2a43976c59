/-
 The words of a text: how long a name and a number at the beginning of a string are; prefixes. The first word of a string: its kind, and how long it is.
-/
import Derived.Lib.Bytealg
import Derived.Laws.StandIn
import Derived.BigCall
import Derived.BigGuard
import Derived.Deep.DeepMust
import Derived.Test.YtblpknkgjkbacaaGreatDoorQ02
namespace Go.Proofs.YtblpknkgjkbacaaGreatDoor
set_option linter.unusedVariables false
open Go.RowKit
/-- How many bytes of one name stand at the beginning; the first argument: none came before. -/
def nmL : Bool → List UInt8 → Nat
  | _, [] => 0
  | f, b :: r => if (letterB b.toNat || (!f && (digitB b.toNat || (b.toNat : Int) == 95))) = true then 1 + nmL false r else 0
def nmAt (s : ByteArray) (k : Nat) : Nat := nmL (decide (k = 0)) (s.data.toList.drop k)
theorem nm_end {s : ByteArray} {k : Nat} (h : s.size ≤ k) : nmAt s k = 0 := by
  unfold nmAt
  rw [List.drop_eq_nil_of_le (by simpa using h)]
  rfl
theorem nm_more {s : ByteArray} {k : Nat} (h : k < s.size) : nmAt s k = if okAt s k = true then 1 + nmAt s (k + 1) else 0 := by
  have e : okAt s k = (letterB s[k].toNat || (!decide (k = 0) && (digitB s[k].toNat || (s[k].toNat : Int) == 95))) := by
    unfold okAt
    rw [dif_pos h]
    congr 2
    by_cases hk : k = 0 <;> simp [hk]
    omega
  unfold nmAt
  rw [drop_byte h, e]
  have e2 : decide (k + 1 = 0) = false := by simp
  rw [e2]
  rfl
theorem nmL_le : ∀ (f : Bool) (l : List UInt8), nmL f l ≤ l.length
  | f, [] => Nat.zero_le _
  | f, b :: r => by
    have h1 := nmL_le false r
    unfold nmL
    split <;> simp only [List.length_cons] <;> omega
theorem nm_le {s : ByteArray} {k : Nat} (h : k ≤ s.size) : k + nmAt s k ≤ s.size := by
  have h1 := nmL_le (decide (k = 0)) (s.data.toList.drop k)
  have h2 : (s.data.toList.drop k).length = s.size - k := by simp
  unfold nmAt
  omega
set_option maxHeartbeats 1000000 in
theorem nameLen_any (s : ByteArray) (w : World) (hs : s.size ≤ maxLen) :
    Calls Tryz.prog 54 #[.string s] w (Ret (.int .i64 (nmAt s 0)) w) := by
  unfold maxLen at hs
  generalize hG : nmAt s 0 = G
  go_enter Tryz.func54, Tryz.ntmps54
  go_wp2
  go_loop [3] (fun i => ∃ k : Nat, k ≤ s.size ∧ i = .int .i64 k ∧ Hid (k + nmAt s k = G)) (fun i => s.size - (intOf i).toNat)
  case atStart => exact ⟨0, Nat.zero_le _, rfl, by show _ = _; omega⟩
  case round =>
    obtain ⟨k, hk, rfl, H⟩ := hrel
    by_cases hlt : k < s.size
    · have HM := Lib.hid (nm_more hlt)
      go_wp2_with (first | (go_at_call 68; refine (isLetter_any _ _).mono ?_; rintro e w' ⟨rfl, rfl⟩) | (go_at_call 69; refine (isDigit_any _ _).mono ?_; rintro e w' ⟨rfl, rfl⟩))
      iterate 3
        · have hok : okAt s k = true := by simp_all [okAt]
          have h2 := HM.out
          rw [if_pos hok] at h2
          go_round
          case rel =>
            refine ⟨k + 1, by omega, by go_num, ?_⟩
            have h3 := H.out
            show k + 1 + nmAt s (k + 1) = G
            omega
          case measure => simp [intOf]; omega
      all_goals
        have hok : okAt s k = false := by simp_all [okAt]
        have h2 := HM.out
        rw [if_neg (by rw [hok]; simp)] at h2
        have h3 := H.out
        go_ret
        exact ⟨by rw [← h3, h2]; rfl, rfl⟩
    · obtain rfl : s.size = k := by omega
      have h3 := H.out
      rw [nm_end (Nat.le_refl _)] at h3
      go_wp2
      go_ret
      exact ⟨by rw [← h3]; rfl, rfl⟩
/-- How many digits stand at the beginning, of some. -/
def numL : Nat → List UInt8 → Nat
  | 0, _ => 0
  | _, [] => 0
  | k + 1, b :: r => if digitB b.toNat = true then 1 + numL k r else 0
def numAt (s : ByteArray) (k : Nat) : Nat := numL (7 - k) (s.data.toList.drop k)
theorem num_end {s : ByteArray} {k : Nat} (h : s.size ≤ k) : numAt s k = 0 := by
  unfold numAt
  rw [List.drop_eq_nil_of_le (by simpa using h)]
  cases 7 - k <;> rfl
theorem num_seven {s : ByteArray} : numAt s 7 = 0 := by
  unfold numAt
  rfl
theorem num_more {s : ByteArray} {k : Nat} (h : k < s.size) (h7 : k < 7) : numAt s k = if digitB s[k].toNat = true then 1 + numAt s (k + 1) else 0 := by
  unfold numAt
  rw [drop_byte h, show 7 - k = (7 - (k + 1)) + 1 by omega]
  rfl
theorem numL_le : ∀ (n : Nat) (l : List UInt8), numL n l ≤ l.length
  | 0, l => Nat.zero_le _
  | n + 1, [] => Nat.zero_le _
  | n + 1, b :: r => by
    have h1 := numL_le n r
    unfold numL
    split <;> simp only [List.length_cons] <;> omega
/-- How long the number is that stands at the beginning. -/
def numW (s : ByteArray) : Nat := if s.data.toList.head? = some 48 then 1 else numAt s 0
set_option maxHeartbeats 1000000 in
theorem numberLength_any (s : ByteArray) (w : World) (hs : s.size ≤ maxLen) (h0 : 0 < s.size) :
    Calls Tryz.prog 145 #[.string s] w (Ret (.int .i64 (numW s)) w) := by
  unfold maxLen at hs
  have hh : s.data.toList.head? = some s[0] := by
    have := drop_byte h0
    rw [List.drop_zero] at this
    rw [this]
    rfl
  by_cases hz : s[0] = 48
  · have hG : numW s = 1 := by unfold numW; rw [if_pos (by rw [hh, hz])]
    have hz1 : ((s[0].toNat : Int) == 48) = true := by rw [hz]; rfl
    rw [hG]
    go_enter Tryz.func145, Tryz.ntmps145
    go_wp2
    go_ret
    exact ⟨rfl, rfl⟩
  · have hG : numW s = numAt s 0 := by unfold numW; rw [if_neg (by rw [hh]; intro h; exact hz (Option.some.inj h))]
    have hz1 : ((s[0].toNat : Int) == 48) = false := by
      rw [beq_eq_false_iff_ne]
      intro h
      refine hz (UInt8.toNat_inj.1 ?_)
      show s[0].toNat = 48
      omega
    rw [hG]
    clear hh hG hz
    generalize hG : numAt s 0 = G
    go_enter Tryz.func145, Tryz.ntmps145
    go_wp2
    go_loop [3] (fun i => ∃ k : Nat, k ≤ s.size ∧ k ≤ 7 ∧ i = .int .i64 k ∧ Hid (k + numAt s k = G)) (fun i => s.size - (intOf i).toNat)
    case atStart => exact ⟨0, Nat.zero_le _, Nat.zero_le _, rfl, by show _ = _; omega⟩
    case round =>
      obtain ⟨k, hk, hk7, rfl, H⟩ := hrel
      by_cases hlt : k < s.size
      · by_cases h7 : k < 7
        · have HM := Lib.hid (num_more hlt h7)
          go_wp2_with (go_at_call 69; refine (isDigit_any _ _).mono ?_; rintro e w' ⟨rfl, rfl⟩)
          · rename_i hd
            have h2 := HM.out
            rw [if_pos hd] at h2
            go_round
            case rel =>
              refine ⟨k + 1, by omega, by omega, by go_num, ?_⟩
              have h3 := H.out
              show k + 1 + numAt s (k + 1) = G
              omega
            case measure => simp [intOf]; omega
          · rename_i hd
            have h2 := HM.out
            rw [if_neg (by rw [hd]; simp)] at h2
            have h3 := H.out
            go_ret
            exact ⟨by rw [← h3, h2]; rfl, rfl⟩
        · obtain rfl : k = 7 := by omega
          have h3 := H.out
          rw [num_seven] at h3
          go_wp2
          go_ret
          exact ⟨by rw [← h3]; rfl, rfl⟩
      · obtain rfl : s.size = k := by omega
        have h3 := H.out
        rw [num_end (Nat.le_refl _)] at h3
        go_wp2
        go_ret
        exact ⟨by rw [← h3]; rfl, rfl⟩
/-- A string begins with another one. -/
def prefB (s p : ByteArray) : Bool := decide (p.size ≤ s.size) && (s.extract 0 p.size).toList == p.toList
set_option maxHeartbeats 1000000 in
theorem litPrefix_any (s p : ByteArray) (w : World) (hs : s.size ≤ maxLen) (hp : p.size ≤ maxLen) :
    Calls Tryz.prog 161 #[.string s, .string p] w (Ret (.bool (prefB s p)) w) := by
  unfold maxLen at hs hp
  go_enter Tryz.func161, Tryz.ntmps161
  go_wp2
  · have h : p.size ≤ s.size := by omega
    go_ret
    exact ⟨ret_bool (by simp [prefB, h]), rfl⟩
  · have h : ¬ p.size ≤ s.size := by omega
    go_ret
    exact ⟨ret_bool (by simp [prefB, h]), rfl⟩
set_option maxHeartbeats 1000000 in
theorem hasPrefix_any (s p : ByteArray) (w : World) (hs : s.size ≤ maxLen) (hp : p.size ≤ maxLen) :
    Calls Tryz.prog 146 #[.string s, .string p] w (Ret (.bool (prefB s p)) w) := by
  go_enter Tryz.func146, Tryz.ntmps146
  go_wp2_with (go_at_call 161; refine (litPrefix_any _ _ _ hs hp).mono ?_; rintro e w' ⟨rfl, rfl⟩)
  go_ret
  exact ⟨rfl, rfl⟩
end Go.Proofs.YtblpknkgjkbacaaGreatDoor
namespace Go.Proofs.YtblpknkgjkbacaaGreatDoor
open Go.RowKit
set_option maxRecDepth 100000 in
set_option maxHeartbeats 1000000 in
theorem litIndex_any (s : ByteArray) (c : Int) (w : World) :
    Calls Tryz.prog 162 #[.string s, .int .u8 c] w (Ret (.int .i64 (Lib.indexByte s.data.toList c.toNat.toUInt8)) w) := by
  go_enter Tryz.func162, Tryz.ntmps162
  go_wp2
  rw [run_callFunc_extern Tryz.func174 (by kernel_rfl) (by kernel_rfl) (by kernel_rfl) (e := Extern.BytealgIndexByte.indexByte) (by kernel_rfl), Lib.run_indexByteString]
  simp only [Result.andThen]
  rw [Oper.upon_value]
  go_wp2
  go_ret
  exact ⟨rfl, rfl⟩
set_option maxHeartbeats 1000000 in
theorem indexByte_any (s : ByteArray) (c : Int) (w : World) :
    Calls Tryz.prog 147 #[.string s, .int .u8 c] w (Ret (.int .i64 (Lib.indexByte s.data.toList c.toNat.toUInt8)) w) := by
  go_enter Tryz.func147, Tryz.ntmps147
  go_wp2_with (go_at_call 162; refine (litIndex_any _ _ _).mono ?_; rintro e w' ⟨rfl, rfl⟩)
  go_ret
  exact ⟨rfl, rfl⟩
def dotsL : ByteArray := ⟨#[46, 46]⟩
def geqL : ByteArray := ⟨#[62, 61]⟩
def marksL : List UInt8 := [91, 93, 40, 41, 123, 125, 44, 59, 58, 61, 43, 45, 42, 47, 60, 62]
def byte0 (s : ByteArray) : Nat := (s.data.toList.headD 0).toNat
def markB (c : Nat) : Bool := decide (0 ≤ Lib.indexByte marksL (UInt8.ofNat c))
/-- The first word: its kind, its length. -/
def wordW (s : ByteArray) : Nat × Nat :=
  if s.size = 0 then (0, 0)
  else if 0 < nmAt s 0 then (if containsB resL (s.extract 0 (nmAt s 0)) = true then (4, nmAt s 0) else (3, nmAt s 0))
  else if digitB (byte0 s) = true then (2, numW s)
  else if prefB s dotsL = true then (4, 2)
  else if prefB s geqL = true then (4, 2)
  else if markB (byte0 s) = true then (4, 1) else (1, 1)
theorem byte0_eq {s : ByteArray} (h : 0 < s.size) : s[0].toNat = byte0 s := by
  unfold byte0
  have := drop_byte h
  rw [List.drop_zero] at this
  rw [this]
  rfl
def FirstPost (s : ByteArray) (w : World) (e : Ending) (w' : World) : Prop := e = .returned (.tuple #[.int .i64 (wordW s).1, .int .i64 (wordW s).2]) ∧ w = w'
set_option maxHeartbeats 2000000 in
theorem firstWord_any (s : ByteArray) (w : World) (hs : s.size ≤ maxLen) :
    Calls Tryz.prog 127 #[.string s] w (FirstPost s w) := by
  have hs' := hs
  unfold maxLen at hs'
  by_cases h0 : s.size = 0
  · have hsn : s = ByteArray.empty := by
      obtain ⟨⟨l⟩⟩ := s
      have : l = [] := List.eq_nil_of_length_eq_zero h0
      rw [this]
      rfl
    subst hsn
    have hW : wordW ByteArray.empty = (0, 0) := rfl
    have HW := Lib.hid hW
    clear hW
    go_enter Tryz.func127, Tryz.ntmps127
    go_wp2
    go_ret2
    exact ⟨by rw [HW.out]; rfl, rfl⟩
  · have hp : 0 < s.size := by omega
    have hne : (s.toList == ([] : List UInt8)) = false := by
      rw [beq_eq_false_iff_ne, ByteArray.toList_eq]
      intro h
      have h2 : s.data.toList.length = 0 := by rw [h]; rfl
      have h3 : s.data.toList.length = s.size := by simp
      omega
    have hnm := nm_le (Nat.zero_le s.size)
    rw [Nat.zero_add] at hnm
    have HB := Lib.hid (byte0_eq hp)
    by_cases h1 : 0 < nmAt s 0
    · have HW : Hid (wordW s = if containsB resL (s.extract 0 (nmAt s 0)) = true then (4, nmAt s 0) else (3, nmAt s 0)) := by
        show _ = _
        unfold wordW
        rw [if_neg h0, if_pos h1]
      have HE := Lib.hid (rfl : nmAt s 0 = nmAt s 0)
      generalize hn : nmAt s 0 = n at *
      cases hb : containsB resL (s.extract 0 n)
      all_goals
        have HR := Lib.hid hb
        clear hb
        go_enter Tryz.func127, Tryz.ntmps127
        go_wp2_with (first
          | (go_at_call 54; go_must (refine (nameLen_any s _ hs).mono ?_; rintro e w' ⟨rfl, rfl⟩; rw [hn]))
          | (go_at_call 55; go_must (refine (isReserved_any _ _).mono ?_; rintro e w' ⟨rfl, rfl⟩; rw [HR.out])))
        go_ret2
        exact ⟨by rw [HW.out, HR.out]; rfl, rfl⟩
    · have HW : Hid (wordW s = if digitB (byte0 s) = true then (2, numW s) else if prefB s dotsL = true then (4, 2) else if prefB s geqL = true then (4, 2) else if markB (byte0 s) = true then (4, 1) else (1, 1)) := by
        show _ = _
        unfold wordW
        rw [if_neg h0, if_neg h1]
      have hn : nmAt s 0 = 0 := by omega
      cases hd : digitB (byte0 s) with
      | true =>
        have HD := Lib.hid hd
        clear hd
        go_enter Tryz.func127, Tryz.ntmps127
        go_wp2_with (first
          | (go_at_call 54; go_must (refine (nameLen_any s _ hs).mono ?_; rintro e w' ⟨rfl, rfl⟩; rw [hn]))
          | (go_at_call 69; go_must (refine (isDigit_any _ _).mono ?_; rintro e w' ⟨rfl, rfl⟩; rw [HB.out, HD.out]))
          | (go_at_call 145; go_must (refine (numberLength_any s _ hs hp).mono ?_; rintro e w' ⟨rfl, rfl⟩)))
        go_ret2
        exact ⟨by rw [HW.out, HD.out]; rfl, rfl⟩
      | false =>
        cases hd1 : prefB s dotsL with
        | true =>
          have HD := Lib.hid (And.intro hd hd1)
          clear hd hd1
          go_enter Tryz.func127, Tryz.ntmps127
          go_wp2_with (first
            | (go_at_call 54; go_must (refine (nameLen_any s _ hs).mono ?_; rintro e w' ⟨rfl, rfl⟩; rw [hn]))
            | (go_at_call 69; go_must (refine (isDigit_any _ _).mono ?_; rintro e w' ⟨rfl, rfl⟩; rw [HB.out, HD.out.1]))
            | (go_at_call 146; go_must (refine (hasPrefix_any s dotsL _ hs (by decide)).mono ?_; rintro e w' ⟨rfl, rfl⟩; rw [HD.out.2])))
          go_ret2
          exact ⟨by rw [HW.out, HD.out.1, HD.out.2]; rfl, rfl⟩
        | false =>
          cases hd2 : prefB s geqL with
          | true =>
            have HD := Lib.hid (And.intro hd (And.intro hd1 hd2))
            clear hd hd1 hd2
            have T1 := ()
            go_enter Tryz.func127, Tryz.ntmps127
            go_wp2_with (first
              | (go_at_call 54; go_must (refine (nameLen_any s _ hs).mono ?_; rintro e w' ⟨rfl, rfl⟩; rw [hn]))
              | (go_at_call 69; go_must (refine (isDigit_any _ _).mono ?_; rintro e w' ⟨rfl, rfl⟩; rw [HB.out, HD.out.1]))
              | (go_at_call 146; go_must (first
                | (clear T1; refine (hasPrefix_any s dotsL _ hs (by decide)).mono ?_; rintro e w' ⟨rfl, rfl⟩; rw [HD.out.2.1])
                | (refine (hasPrefix_any s geqL _ hs (by decide)).mono ?_; rintro e w' ⟨rfl, rfl⟩; rw [HD.out.2.2]))))
            go_ret2
            exact ⟨by rw [HW.out, HD.out.1, HD.out.2.1, HD.out.2.2]; rfl, rfl⟩
          | false =>
            have HD := Lib.hid (And.intro hd (And.intro hd1 hd2))
            clear hd hd1 hd2
            have T1 := ()
            go_enter Tryz.func127, Tryz.ntmps127
            go_wp2_with (first
              | (go_at_call 54; go_must (refine (nameLen_any s _ hs).mono ?_; rintro e w' ⟨rfl, rfl⟩; rw [hn]))
              | (go_at_call 69; go_must (refine (isDigit_any _ _).mono ?_; rintro e w' ⟨rfl, rfl⟩; rw [HB.out, HD.out.1]))
              | (go_at_call 146; go_must (first
                | (clear T1; refine (hasPrefix_any s dotsL _ hs (by decide)).mono ?_; rintro e w' ⟨rfl, rfl⟩; rw [HD.out.2.1])
                | (refine (hasPrefix_any s geqL _ hs (by decide)).mono ?_; rintro e w' ⟨rfl, rfl⟩; rw [HD.out.2.2])))
              | (go_at_call 147; go_must (refine (indexByte_any ⟨marksL.toArray⟩ _ _).mono ?_; rintro e w' ⟨rfl, rfl⟩; rw [HB.out])))
            · have hm : markB (byte0 s) = true := by unfold markB; simp; omega
              go_ret2
              exact ⟨by rw [HW.out, HD.out.1, HD.out.2.1, HD.out.2.2, hm]; rfl, rfl⟩
            · have hm : markB (byte0 s) = false := by unfold markB; simp; omega
              go_ret2
              exact ⟨by rw [HW.out, HD.out.1, HD.out.2.1, HD.out.2.2, hm]; rfl, rfl⟩
end Go.Proofs.YtblpknkgjkbacaaGreatDoor
