/-
 Sides in package affine: a variable's place, empty boxes, large ones.
-/
import Derived.Test.YtfilcaolgfghcaaGreatIsPoint
import Derived.Test.YtfilcaolgfghcaaGreatForm
import Derived.WalkSpells
namespace Go.Proofs.YtfilcaolgfghcaaGreat
open Go.RowKit

def sameName (n : ByteArray) (s : SideD) : Bool := s.1.toList == n.toList
def emptySide (s : SideD) : Bool := decide (s.2.2 < s.2.1)

set_option maxHeartbeats 400000 in
theorem placeOf1_any (n x : ByteArray) (lo hi : Int) (P : Nat) (w : World) (hp : w.cell? ⟨P, 0, none⟩ = some (.string x)) :
    Calls Tryz.prog 102 #[.agg #[.string n, .int .i64 lo, .int .i64 hi], .pointer (some ⟨P, 0, none⟩)] w (Gives (.bool (n.toList == x.toList)) w) := by
  have hp' := (World.grownBy_alloc w (.cells #[.string n, .int .i64 lo, .int .i64 hi] 64) none).cell hp (by simp)
  clear hp
  go_enter Tryz.func102, Tryz.ntmps102
  go_wp2
  all_goals
    go_ret
    exact ⟨ret_bool (by simp [*]), World.grownBy_alloc _ _ _⟩

set_option maxHeartbeats 400000 in
theorem isEmpty1_any (n : ByteArray) (lo hi : Int) (w : World) :
    Calls Tryz.prog 96 #[.agg #[.string n, .int .i64 lo, .int .i64 hi]] w (Gives (.bool (emptySide (n, lo, hi))) w) := by
  go_enter Tryz.func96, Tryz.ntmps96
  go_wp2
  all_goals
    go_ret
    exact ⟨ret_bool (by simp [emptySide, *]), World.grownBy_alloc _ _ _⟩

theorem findIdx_hit {α : Type} {q : α → Bool} {l : List α} {k : Nat} {a : α} (h : l[k]? = some a) (hn : (l.take k).any q = false) (hq : q a = true) : l.findIdx? q = some k := by
  obtain ⟨hk, rfl⟩ := List.getElem?_eq_some_iff.1 h
  rw [List.findIdx?_eq_some_iff_getElem]
  refine ⟨hk, hq, fun j hj => ?_⟩
  rw [List.any_eq_false] at hn
  have := hn (l[j]'(by omega)) (List.mem_take_iff_getElem.2 ⟨j, by omega, rfl⟩)
  simpa using this
theorem findIdx_miss {α : Type} {q : α → Bool} {l : List α} (hn : l.any q = false) : l.findIdx? q = none := by
  rw [List.findIdx?_eq_none_iff]
  intro x hx
  have := List.any_eq_false.1 hn x hx
  simpa using this

/-- The first place where something holds, or -1. -/
def firstI {α : Type} (q : α → Bool) (l : List α) : Int := match l.findIdx? q with | some k => k | none => -1
theorem firstI_hit {α : Type} {q : α → Bool} {l : List α} {k : Nat} {a : α} (h : l[k]? = some a) (hn : (l.take k).any q = false) (hq : q a = true) : firstI q l = k := by
  unfold firstI
  rw [findIdx_hit h hn hq]
theorem firstI_miss {α : Type} {q : α → Bool} {l : List α} (hn : l.any q = false) : firstI q l = -1 := by
  unfold firstI
  rw [findIdx_miss hn]
theorem firstI_any {α : Type} (q : α → Bool) (l : List α) : decide (0 ≤ firstI q l) = l.any q := by
  cases h : l.any q
  · rw [firstI_miss h]; rfl
  · unfold firstI
    cases hf : l.findIdx? q with
    | some k => simp
    | none =>
      rw [List.findIdx?_eq_none_iff] at hf
      rw [List.any_eq_true] at h
      obtain ⟨x, hx, hq⟩ := h
      rw [hf x hx] at hq
      cases hq
theorem firstI_none {α : Type} (q : α → Bool) (l : List α) : (firstI q l == -1) = !l.any q := by
  cases h : l.any q
  · rw [firstI_miss h]; rfl
  · have := firstI_any q l
    rw [h] at this
    simp at this
    simp
    omega

set_option maxRecDepth 100000 in
set_option maxHeartbeats 1000000 in
theorem indexPlace_any (v : Value) (l : List SideD) (x : ByteArray) (P : Nat) (w : World) (hl : SidesAt w v l) (hp : w.cell? ⟨P, 0, none⟩ = some (.string x)) :
    Calls Tryz.prog 84 #[v, .func (.func 102) #[] #[.pointer (some ⟨P, 0, none⟩)]] w (Gives (.int .i64 (firstI (sameName x) l)) w) := by
  obtain ⟨p, cap, rfl, ⟨hlen, _⟩, hc⟩ := hl
  have H := Lib.hid hc
  have HP := Lib.hid hp
  clear hc hp
  go_enter Tryz.func84, Tryz.ntmps84
  go_wp2
  go_loopw [8] (fun i wr => ∃ k : Nat, k ≤ l.length ∧ i = .int .i64 k ∧ Hid ((l.take k).any (sameName x) = false) ∧ Hid (w.grownBy wr none)) (fun i _ => l.length - (intOf i).toNat)
  case atStart => exact ⟨0, Nat.zero_le _, rfl, rfl, grownBy_refl _ _⟩
  case round =>
    obtain ⟨k, hk, rfl, HR, HG⟩ := hrel
    by_cases hlt : k < l.length
    · have h0 := List.getElem?_eq_getElem hlt
      obtain ⟨b, off, rfl, h3, ⟨h4, h4'⟩, ⟨h5, h5'⟩, h6, h7, h8⟩ := (H.out k _ h0).kept HG.out
      have HS := Lib.hid (any_snoc (q := sameName x) h0)
      have HH := Lib.hid (fun hq => firstI_hit (q := sameName x) h0 HR.out hq)
      have HC := Lib.hid (placeOf1_any (l[k]).1 x (l[k]).2.1 (l[k]).2.2 P wr (HG.out.cell HP.out (by simp)))
      have HE := Lib.hid (show sameName x l[k] = ((l[k]).1.toList == x.toList) from rfl)
      generalize hn : (l[k]).1 = n at *
      generalize hlo : (l[k]).2.1 = lo at *
      generalize hhi : (l[k]).2.2 = hi' at *
      clear h0 hn hlo hhi
      go_wp2_with (first | (go_at_call 102; refine HC.out.mono ?_; rintro e w' ⟨rfl, hg1⟩; have G1 := Lib.hid hg1; clear hg1))
      · have he : (n.toList == x.toList) = true := by assumption
        go_ret
        exact ⟨ret_i64 (HH.out (by rw [HE.out, he])).symm, grownBy_trans HG.out G1.out⟩
      · have he : (n.toList == x.toList) = false := by assumption
        go_roundw
        case rel => exact ⟨k + 1, by omega, by go_num, by show _ = _; rw [HS.out, HR.out, HE.out, he]; rfl, grownBy_trans HG.out G1.out⟩
        case measure => simp [intOf]; omega
    · obtain rfl : k = l.length := by omega
      go_wp2
      go_ret
      exact ⟨ret_i64 (firstI_miss (by have := HR.out; rwa [List.take_length] at this)).symm, HG.out⟩

set_option maxRecDepth 100000 in
set_option maxHeartbeats 1000000 in
theorem indexEmpty_any (v : Value) (l : List SideD) (w : World) (hl : SidesAt w v l) :
    Calls Tryz.prog 84 #[v, .func (.func 96) #[] #[]] w (Gives (.int .i64 (firstI emptySide l)) w) := by
  obtain ⟨p, cap, rfl, ⟨hlen, _⟩, hc⟩ := hl
  have H := Lib.hid hc
  clear hc
  go_enter Tryz.func84, Tryz.ntmps84
  go_wp2
  go_loopw [8] (fun i wr => ∃ k : Nat, k ≤ l.length ∧ i = .int .i64 k ∧ Hid ((l.take k).any emptySide = false) ∧ Hid (w.grownBy wr none)) (fun i _ => l.length - (intOf i).toNat)
  case atStart => exact ⟨0, Nat.zero_le _, rfl, rfl, grownBy_refl _ _⟩
  case round =>
    obtain ⟨k, hk, rfl, HR, HG⟩ := hrel
    by_cases hlt : k < l.length
    · have h0 := List.getElem?_eq_getElem hlt
      obtain ⟨b, off, rfl, h3, ⟨h4, h4'⟩, ⟨h5, h5'⟩, h6, h7, h8⟩ := (H.out k _ h0).kept HG.out
      have HS := Lib.hid (any_snoc (q := emptySide) h0)
      have HH := Lib.hid (fun hq => firstI_hit (q := emptySide) h0 HR.out hq)
      have HC := Lib.hid (isEmpty1_any (l[k]).1 (l[k]).2.1 (l[k]).2.2 wr)
      have HE := Lib.hid (show emptySide l[k] = emptySide ((l[k]).1, (l[k]).2.1, (l[k]).2.2) from rfl)
      generalize hn : (l[k]).1 = n at *
      generalize hlo : (l[k]).2.1 = lo at *
      generalize hhi : (l[k]).2.2 = hi' at *
      clear h0 hn hlo hhi
      go_wp2_with (first | (go_at_call 96; refine HC.out.mono ?_; rintro e w' ⟨rfl, hg1⟩; have G1 := Lib.hid hg1; clear hg1))
      · have he : emptySide (n, lo, hi') = true := by assumption
        go_ret
        exact ⟨ret_i64 (HH.out (by rw [HE.out, he])).symm, grownBy_trans HG.out G1.out⟩
      · have he : emptySide (n, lo, hi') = false := by assumption
        go_roundw
        case rel => exact ⟨k + 1, by omega, by go_num, by show _ = _; rw [HS.out, HR.out, HE.out, he]; rfl, grownBy_trans HG.out G1.out⟩
        case measure => simp [intOf]; omega
    · obtain rfl : k = l.length := by omega
      go_wp2
      go_ret
      exact ⟨ret_i64 (firstI_miss (by have := HR.out; rwa [List.take_length] at this)).symm, HG.out⟩

theorem emptyB_any (l : List SideD) : l.any emptySide = emptyB l := rfl

set_option maxHeartbeats 1000000 in
theorem containsEmpty_any (v : Value) (l : List SideD) (w : World) (hl : SidesAt w v l) :
    Calls Tryz.prog 51 #[v, .func (.func 96) #[] #[]] w (Gives (.bool (emptyB l)) w) := by
  have HL := Lib.hid hl
  have HF := Lib.hid (firstI_any emptySide l)
  clear hl
  go_enter Tryz.func51, Tryz.ntmps51
  go_wp2_with (go_at_call 84; refine (indexEmpty_any v l _ HL.out).mono ?_; rintro e w' ⟨rfl, hg⟩; have HG := Lib.hid hg; clear hg)
  go_ret
  exact ⟨ret_bool (HF.out.trans (emptyB_any l)), HG.out⟩

set_option maxHeartbeats 1000000 in
theorem isEmpty_any (v : Value) (l : List SideD) (w : World) (hl : SidesAt w v l) :
    Calls Tryz.prog 71 #[v] w (Gives (.bool (emptyB l)) w) := by
  have HL := Lib.hid hl
  clear hl
  go_enter Tryz.func71, Tryz.ntmps71
  go_wp2_with (go_at_call 51; refine (containsEmpty_any v l _ HL.out).mono ?_; rintro e w' ⟨rfl, hg⟩; have HG := Lib.hid hg; clear hg)
  go_ret
  exact ⟨rfl, HG.out⟩

set_option maxHeartbeats 1000000 in
theorem placeOf_any (x : ByteArray) (v : Value) (l : List SideD) (w : World) (hl : SidesAt w v l) :
    Calls Tryz.prog 77 #[.string x, v] w (Gives (.int .i64 (firstI (sameName x) l)) w) := by
  have HL := Lib.hid (hl.kept (World.grownBy_alloc w (.cells #[.string x] 9) none))
  have hp : (w.alloc (.cells #[.string x] 9)).cell? ⟨w.heap.size, 0, none⟩ = some (.string x) := by simp
  have HP := Lib.hid hp
  clear hl hp
  go_enter Tryz.func77, Tryz.ntmps77
  go_wp2_with (go_at_call 84; refine (indexPlace_any v l x w.heap.size _ HL.out HP.out).mono ?_; rintro e w' ⟨rfl, hg⟩; have HG := Lib.hid hg; clear hg)
  go_ret
  exact ⟨rfl, grownBy_trans (World.grownBy_alloc _ _ _) HG.out⟩

theorem sameName_any (x : ByteArray) (l : List SideD) : l.any (sameName x) = containsB (namesOf l) x := by
  unfold containsB namesOf
  rw [List.any_map]
  congr 1
  funext s
  simp only [sameName, Function.comp]
  exact BEq.comm

set_option maxHeartbeats 1000000 in
theorem isNear_any (n : ByteArray) (lo hi : Int) (w : World) (h1 : -9223372036854775808 ≤ lo ∧ lo ≤ 9223372036854775807) (h2 : -9223372036854775808 ≤ hi ∧ hi ≤ 9223372036854775807) :
    Calls Tryz.prog 98 #[.agg #[.string n, .int .i64 lo, .int .i64 hi]] w (Gives (.bool (!sideBad lo hi)) w) := by
  obtain ⟨h1, h1'⟩ := h1
  obtain ⟨h2, h2'⟩ := h2
  go_enter Tryz.func98, Tryz.ntmps98
  go_wp2
  all_goals
    go_ret
    refine ⟨ret_bool ?_, World.grownBy_alloc _ _ _⟩
    rw [Bool.eq_iff_iff]
    by_cases hL : lo ≤ hi <;> simp [sideBad, inB] <;> omega

end Go.Proofs.YtfilcaolgfghcaaGreat
