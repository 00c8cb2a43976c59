/-
 The errors of a form: wbref1.FormFault and nest.CheckForm say the same of every form.
 The errors of a form over some variables.
 nest.CheckForm; the errors of a form over some variables.
-/
import Derived.Test.YtfilcaolgfghcaaGreatNames
namespace Go.Proofs.YtfilcaolgfghcaaGreat
open Go.RowKit

/-- A term of a form, as it lies in memory: the j-th of a slice that begins at p. -/
def TermAt (w : World) (p : Option Addr) (t : ByteArray × Int) (j : Nat) : Prop :=
  ∃ b off, p = some ⟨b, off, none⟩ ∧ t.1.size ≤ maxLen ∧ -9223372036854775808 ≤ t.2 ∧ t.2 ≤ 9223372036854775807 ∧
      w.cell? ⟨b, off + j * 2, none⟩ = some (.string t.1) ∧ w.cell? ⟨b, off + j * 2 + 1, none⟩ = some (.int .i64 t.2)

/-- The terms of a form, as they lie in memory. -/
def TermsAt (w : World) (v : Value) (ts : List (ByteArray × Int)) : Prop :=
  ∃ p cap, v = .slice p ts.length cap ∧ ts.length ≤ maxLen ∧ ∀ j t, ts[j]? = some t → TermAt w p t j

theorem TermAt.kept {w w' : World} {p : Option Addr} {t : ByteArray × Int} {j : Nat} (h : TermAt w p t j) (hg : w.grownBy w' none) : TermAt w' p t j := by
  obtain ⟨b, off, hp, h1, h2, h3, h4, h5⟩ := h
  exact ⟨b, off, hp, h1, h2, h3, hg.cell h4 (by simp), hg.cell h5 (by simp)⟩

theorem TermsAt.kept {w w' : World} {v : Value} {ts : List (ByteArray × Int)} (h : TermsAt w v ts) (hg : w.grownBy w' none) : TermsAt w' v ts := by
  obtain ⟨p, cap, hv, hl, hc⟩ := h
  exact ⟨p, cap, hv, hl, fun j t hj => (hc j t hj).kept hg⟩

def leB (a b : ByteArray) : Bool := Op.bytesLess a.toList b.toList || a.toList == b.toList
def coefBad (z : Int) : Bool := z == 0 || !inB z (-1000) 1000
def termsErr : ByteArray → List (ByteArray × Int) → Int
  | _, [] => 0
  | last, t :: r => if nameB t.1 then (if coefBad t.2 then 1 else if leB t.1 last then 7 else termsErr t.1 r) else 5
def formErr (c : Int) (ts : List (ByteArray × Int)) : Int := if inB c (-1000000) 1000000 then (if 12 < ts.length then 2 else termsErr ByteArray.empty ts) else 1

theorem termsErr_drop {ts : List (ByteArray × Int)} {k : Nat} {t : ByteArray × Int} (last : ByteArray) (h : ts[k]? = some t) :
    termsErr last (ts.drop k) = if nameB t.1 then (if coefBad t.2 then 1 else if leB t.1 last then 7 else termsErr t.1 (ts.drop (k + 1))) else 5 := by
  obtain ⟨hk, rfl⟩ := List.getElem?_eq_some_iff.1 h
  rw [List.drop_eq_getElem_cons hk]
  rfl

theorem ret_i64 {a b : Int} (h : a = b) : Ending.returned (.int .i64 a) = .returned (.int .i64 b) := by rw [h]

set_option maxHeartbeats 1000000 in
theorem formFault_at (c : Int) (ts : List (ByteArray × Int)) (p : Option Addr) (cap : Nat) (w : World) (hl : ts.length ≤ maxLen)
    (hc : ∀ j t, ts[j]? = some t → TermAt w p t j) :
    Calls Tryz.prog 70 #[.agg #[.int .i64 c, .slice p ts.length cap]] w (Gives (.int .i64 (formErr c ts)) w) := by
  unfold maxLen at hl
  have H := Lib.hid hc
  clear hc
  cases hcc : inB c (-1000000) 1000000
  · go_enter Tryz.func70, Tryz.ntmps70
    go_wp2_with (first | (go_at_call 33; refine (in_any _ _ _ _).mono ?_; rintro e w' ⟨rfl, rfl⟩))
    go_ret
    exact ⟨ret_i64 (by simp [formErr, hcc]), World.grownBy_alloc _ _ _⟩
  by_cases hll : 12 < ts.length
  · go_enter Tryz.func70, Tryz.ntmps70
    go_wp2_with (first | (go_at_call 33; refine (in_any _ _ _ _).mono ?_; rintro e w' ⟨rfl, rfl⟩))
    go_ret
    exact ⟨ret_i64 (by simp [formErr, hcc, hll]), World.grownBy_alloc _ _ _⟩
  have HF := Lib.hid (show formErr c ts = termsErr ByteArray.empty ts by simp [formErr, hcc, hll])
  go_enter Tryz.func70, Tryz.ntmps70
  go_wp2_with (first | (go_at_call 33; refine (in_any _ _ _ _).mono ?_; rintro e w' ⟨rfl, rfl⟩))
  go_loopw [3, 17] (fun last i wr => ∃ k : Nat, ∃ s : ByteArray, k ≤ ts.length ∧ i = .int .i64 k ∧ last = .string s ∧ Hid (termsErr s (ts.drop k) = termsErr ByteArray.empty ts) ∧ w.grownBy wr none) (fun _ i _ => ts.length - (intOf i).toNat)
  case atStart => exact ⟨0, ByteArray.empty, Nat.zero_le _, rfl, rfl, rfl, World.grownBy_alloc _ _ _⟩
  case round =>
    obtain ⟨k, s, hk, rfl, rfl, HR, hg⟩ := hrel
    by_cases hlt : k < ts.length
    · have h0 := List.getElem?_eq_getElem hlt
      obtain ⟨b, off, rfl, h3, h4, h5, h6, h7⟩ := (H.out k _ h0).kept hg
      have HS := Lib.hid (termsErr_drop s h0)
      generalize hn : (ts[k]).1 = n at *
      generalize hz : (ts[k]).2 = z at *
      have G := Lib.hid hg
      clear hg h0 hn hz
      go_wp2_with (first | (go_at_call 33; refine (in_any _ _ _ _).mono ?_; rintro e w' ⟨rfl, rfl⟩) | (go_at_call 31; refine (name_any _ _ ‹_›).mono ?_; rintro e w' ⟨rfl, hg1⟩; have q0 : w'.cell? ⟨wr.heap.size, 0, none⟩ = some (.string n) := hg1.cell (by simp) (by simp); have q1 : w'.cell? ⟨wr.heap.size, 1, none⟩ = some (.int .i64 z) := hg1.cell (by simp) (by simp); have G1 := Lib.hid hg1; clear hg1))
      all_goals first
        | (go_ret
           exact ⟨ret_i64 (by rw [HF.out, ← HR.out, HS.out]; clear HF HR HS H G G1; simp_all [coefBad, leB]), grownBy_trans G.out (grownBy_trans (World.grownBy_alloc _ _ _) G1.out)⟩)
        | (go_roundw
           case rel => exact ⟨k + 1, n, by omega, by go_num, rfl, by show _ = _; rw [← HR.out, HS.out]; clear HF HR HS H G G1; simp_all [coefBad, leB], grownBy_trans G.out (grownBy_trans (World.grownBy_alloc _ _ _) G1.out)⟩
           case measure => simp [intOf]; omega)
    · obtain rfl : k = ts.length := by omega
      go_wp2
      go_ret
      exact ⟨ret_i64 (by rw [HF.out, ← HR.out]; simp [termsErr]), hg⟩

end Go.Proofs.YtfilcaolgfghcaaGreat

namespace Go.Proofs.YtfilcaolgfghcaaGreat
open Go.RowKit

def termsIn (names : List ByteArray) (ts : List (ByteArray × Int)) : Bool := ts.all fun t => containsB names t.1
def aroundErr (names : List ByteArray) (f : Int × List (ByteArray × Int)) : Int := if formErr f.1 f.2 == 0 then (if termsIn names f.2 then 0 else 16) else formErr f.1 f.2

theorem termsIn_snoc {names : List ByteArray} {ts : List (ByteArray × Int)} {k : Nat} {t : ByteArray × Int} (h : ts[k]? = some t) :
    termsIn names (ts.take (k + 1)) = (termsIn names (ts.take k) && containsB names t.1) := by
  obtain ⟨hk, rfl⟩ := List.getElem?_eq_some_iff.1 h
  unfold termsIn
  rw [List.take_succ_eq_append_getElem hk, List.all_append]
  simp

theorem termsIn_stop {names : List ByteArray} {ts : List (ByteArray × Int)} {k : Nat} {t : ByteArray × Int} (h : ts[k]? = some t) (hf : containsB names t.1 = false) : termsIn names ts = false := by
  obtain ⟨hk, rfl⟩ := List.getElem?_eq_some_iff.1 h
  rw [Bool.eq_false_iff]
  intro ha
  have := List.all_eq_true.1 ha _ (List.getElem_mem hk)
  rw [hf] at this
  exact absurd this (by simp)

set_option maxHeartbeats 1000000 in
theorem around_any (c : Int) (ts : List (ByteArray × Int)) (names : List ByteArray) (tv nv : Value) (w : World) (ht : TermsAt w tv ts) (hn : StrsAt w nv names) :
    Calls Tryz.prog 34 #[.agg #[.int .i64 c, tv], nv] w (Gives (.int .i64 (aroundErr names (c, ts))) w) := by
  obtain ⟨p, cap, rfl, hl, hc⟩ := ht
  have H := Lib.hid hc
  have HN := Lib.hid hn
  have hl' := hl
  unfold maxLen at hl'
  clear hc hn
  cases hf : (formErr c ts == 0)
  · have hf' : (formErr c ts == 0) = false := hf
    go_enter Tryz.func34, Tryz.ntmps34
    go_wp2_with (first | (go_at_call 70; refine (formFault_at c ts p cap _ hl (fun j t hj => (H.out j t hj).kept (World.grownBy_alloc _ _ _))).mono ?_; rintro e w' ⟨rfl, hg1⟩; have G1 := Lib.hid hg1; clear hg1))
    go_ret
    exact ⟨ret_i64 (by simp only [aroundErr, hf']; rfl), grownBy_trans (World.grownBy_alloc _ _ _) G1.out⟩
  · have hf' := Lib.hid hf
    have hf2 : formErr c ts = 0 := by simpa using hf
    clear hf
    go_enter Tryz.func34, Tryz.ntmps34
    go_wp2_with (first | (go_at_call 70; refine (formFault_at c ts p cap _ hl (fun j t hj => (H.out j t hj).kept (World.grownBy_alloc _ _ _))).mono ?_; rintro e w' ⟨rfl, hg1⟩; have q1 : w'.cell? ⟨w.heap.size, 1, none⟩ = some (.slice p ts.length cap) := hg1.cell (by simp) (by simp); have G1 := Lib.hid hg1; clear hg1))
    have HW : Hid (w.grownBy w' none) := grownBy_trans (World.grownBy_alloc _ _ _) G1.out
    have HA := Lib.hid (show aroundErr names (c, ts) = if termsIn names ts then 0 else 16 by simp only [aroundErr, hf'.out]; rfl)
    clear G1 q1 hf2 hf'
    go_loopw [16] (fun i wr => ∃ k : Nat, k ≤ ts.length ∧ i = .int .i64 k ∧ Hid (termsIn names (ts.take k) = true) ∧ Hid (w.grownBy wr none)) (fun i _ => ts.length - (intOf i).toNat)
    case atStart => exact ⟨0, Nat.zero_le _, rfl, rfl, HW⟩
    case round =>
      obtain ⟨k, hk, rfl, HR, HG⟩ := hrel
      by_cases hlt : k < ts.length
      · have h0 := List.getElem?_eq_getElem hlt
        obtain ⟨b, off, rfl, h3, h4, h5, h6, h7⟩ := (H.out k _ h0).kept HG.out
        have HS := Lib.hid (termsIn_snoc (names := names) h0)
        have HT := fun h => termsIn_stop (names := names) h0 h
        generalize hn : (ts[k]).1 = n at *
        generalize hz : (ts[k]).2 = z at *
        have HT := Lib.hid HT
        clear h0 hn hz
        go_wp2_with (first | (go_at_call 32; refine (contains_any _ names _ _ (HN.out.kept (grownBy_trans HG.out (World.grownBy_alloc _ _ _)))).mono ?_; rintro e w'' ⟨rfl, rfl⟩))
        · have he : containsB names n = false := by simpa using ‹(!containsB names n) = true›
          go_ret
          exact ⟨ret_i64 (by rw [HA.out, HT.out he]; rfl), grownBy_trans HG.out (World.grownBy_alloc _ _ _)⟩
        · have he : containsB names n = true := by simpa using ‹(!containsB names n) = false›
          go_roundw
          case rel => exact ⟨k + 1, by omega, by go_num, by show _ = _; rw [HS.out, HR.out, he]; rfl, grownBy_trans HG.out (World.grownBy_alloc _ _ _)⟩
          case measure => simp [intOf]; omega
      · obtain rfl : k = ts.length := by omega
        go_wp2
        go_ret
        exact ⟨ret_i64 (by rw [HA.out, ← List.take_length (l := ts), HR.out]; rfl), HG.out⟩

end Go.Proofs.YtfilcaolgfghcaaGreat

namespace Go.Proofs.YtfilcaolgfghcaaGreat
open Go.RowKit

set_option maxHeartbeats 400000 in
theorem within_any (n m : Int) (w : World) (h0 : 0 ≤ m) (h1 : m ≤ 1000000000) :
    Calls Tryz.prog 100 #[.int .i64 n, .int .i64 m] w (Ret (.bool (inB n (-m) m)) w) := by
  go_enter Tryz.func100, Tryz.ntmps100
  go_wp2
  all_goals
    go_ret
    exact ⟨ret_bool (by simp [inB]; try omega), rfl⟩

/-- Nothing is at most the empty string but itself. -/
theorem leB_empty {n : ByteArray} (h : nameB n = true) : leB n ByteArray.empty = false := by
  have h1 : 1 ≤ n.size := by simp [nameB] at h; omega
  have hn : n.toList ≠ [] := by
    rw [ByteArray.toList_eq]
    intro he
    have : n.data.toList.length = 0 := by rw [he]; rfl
    simp at this
    have h2 : n.size = n.data.size := rfl
    rw [h2, this] at h1
    simp at h1
  cases hl : n.toList with
  | nil => exact absurd hl hn
  | cons a l =>
    have he : ByteArray.empty.toList = [] := by rw [ByteArray.toList_eq]; rfl
    simp [leB, hl, he, Op.bytesLess]

def lastName (ts : List (ByteArray × Int)) (k : Nat) : ByteArray := match (ts.take k).getLast? with | some t => t.1 | none => ByteArray.empty

theorem lastName_succ {ts : List (ByteArray × Int)} {k : Nat} {t : ByteArray × Int} (h : ts[k]? = some t) : lastName ts (k + 1) = t.1 := by
  obtain ⟨hk, rfl⟩ := List.getElem?_eq_some_iff.1 h
  unfold lastName
  rw [List.take_succ_eq_append_getElem hk, List.getLast?_append]
  simp

set_option maxHeartbeats 1000000 in
theorem checkForm_at (c : Int) (ts : List (ByteArray × Int)) (p : Option Addr) (cap : Nat) (w : World) (hl : ts.length ≤ maxLen)
    (hc : ∀ j t, ts[j]? = some t → TermAt w p t j) :
    Calls Tryz.prog 76 #[.agg #[.int .i64 c, .slice p ts.length cap]] w (Gives (.int .i64 (formErr c ts)) w) := by
  unfold maxLen at hl
  have H := Lib.hid hc
  clear hc
  cases hcc : inB c (-1000000) 1000000
  · go_enter Tryz.func76, Tryz.ntmps76
    go_wp2_with (first | (go_at_call 100; refine (within_any _ _ _ (by omega) (by omega)).mono ?_; rintro e w' ⟨rfl, rfl⟩))
    go_ret
    exact ⟨ret_i64 (by simp [formErr, hcc]), World.grownBy_alloc _ _ _⟩
  by_cases hll : 12 < ts.length
  · go_enter Tryz.func76, Tryz.ntmps76
    go_wp2_with (first | (go_at_call 100; refine (within_any _ _ _ (by omega) (by omega)).mono ?_; rintro e w' ⟨rfl, rfl⟩))
    go_ret
    exact ⟨ret_i64 (by simp [formErr, hcc, hll]), World.grownBy_alloc _ _ _⟩
  have HF := Lib.hid (show formErr c ts = termsErr ByteArray.empty ts by simp [formErr, hcc, hll])
  go_enter Tryz.func76, Tryz.ntmps76
  go_wp2_with (first | (go_at_call 100; refine (within_any _ _ _ (by omega) (by omega)).mono ?_; rintro e w' ⟨rfl, rfl⟩))
  go_loopw [16] (fun i wr => ∃ k : Nat, k ≤ ts.length ∧ i = .int .i64 k ∧ Hid (termsErr (lastName ts k) (ts.drop k) = termsErr ByteArray.empty ts) ∧ Hid ((w.alloc (.cells #[.int .i64 c, .slice p ts.length cap] 33)).grownBy wr none)) (fun i _ => ts.length - (intOf i).toNat)
  case atStart => exact ⟨0, Nat.zero_le _, rfl, rfl, grownBy_refl _ _⟩
  case round =>
    obtain ⟨k, hk, rfl, HR, HG⟩ := hrel
    by_cases hlt : k < ts.length
    · have h0 := List.getElem?_eq_getElem hlt
      have hgw : w.grownBy wr none := grownBy_trans (World.grownBy_alloc _ _ _) HG.out
      obtain ⟨b, off, rfl, h3, h4, h5, h6, h7⟩ := (H.out k _ h0).kept hgw
      have HS := Lib.hid (termsErr_drop (lastName ts k) h0)
      have HL := Lib.hid (lastName_succ h0)
      generalize hn : (ts[k]).1 = n at *
      generalize hz : (ts[k]).2 = z at *
      have G := Lib.hid hgw
      have hbox : wr.cell? ⟨w.heap.size, 1, none⟩ = some (.slice (some ⟨b, off, none⟩) ts.length cap) := HG.out.cell (by simp) (by simp)
      clear hgw h0 hn hz
      by_cases hk0 : k = 0
      · subst hk0
        simp only [Nat.zero_mul, Nat.add_zero] at h6 h7
        have HL0 := Lib.hid (show lastName ts 0 = ByteArray.empty from rfl)
        go_wp2_with (first | (go_at_call 100; refine (within_any _ _ _ (by omega) (by omega)).mono ?_; rintro e w' ⟨rfl, rfl⟩) | (go_at_call 101; refine (isName_any _ _ ‹_›).mono ?_; rintro e w' ⟨rfl, rfl⟩))
        all_goals try go_quiet (fail)
        all_goals try go_wp2
        all_goals first
          | (go_ret
             exact ⟨ret_i64 (by rw [HF.out, ← HR.out, HS.out]; clear HF HR HS H G HG HL; simp_all [coefBad]), grownBy_trans G.out (World.grownBy_alloc _ _ _)⟩)
          | (have hN : nameB n = true := by clear HF HR HS H G HG HL; simp_all
             have hE := Lib.hid (leB_empty hN)
             go_roundw
             case rel => exact ⟨1, by omega, by go_num, by show _ = _; rw [HL.out, ← HR.out, HS.out, HL0.out, hE.out]; clear HF HR HS H G HG HL; simp_all [coefBad], grownBy_trans HG.out (grownBy_trans (World.grownBy_alloc _ _ _) (grownBy_drewN _ _ _))⟩
             case measure => simp [intOf]; omega)
      · obtain ⟨m, rfl⟩ := Nat.exists_eq_succ_of_ne_zero hk0
        have hm0 : m < ts.length := by omega
        obtain ⟨b', off', hbb, _, _, _, h6', _⟩ := (H.out m _ (List.getElem?_eq_getElem hm0)).kept G.out
        have HL' := Lib.hid (lastName_succ (List.getElem?_eq_getElem hm0))
        generalize hn' : (ts[m]).1 = n' at *
        simp only [Option.some.injEq, Addr.mk.injEq] at hbb
        obtain ⟨rfl, rfl, _⟩ := hbb
        have a1 : (wr.alloc (.cells #[.string n, .int .i64 z] 66)).cell? ⟨w.heap.size, 1, none⟩ = some (.slice (some ⟨b, off, none⟩) ts.length cap) := (World.grownBy_alloc _ _ none).cell hbox (by simp)
        have a2 : (wr.alloc (.cells #[.string n, .int .i64 z] 66)).cell? ⟨b, off + m * 2, none⟩ = some (.string n') := (World.grownBy_alloc _ _ none).cell h6' (by simp)
        clear hn' hbox h6'
        go_wp2_with (first | (go_at_call 100; refine (within_any _ _ _ (by omega) (by omega)).mono ?_; rintro e w' ⟨rfl, rfl⟩) | (go_at_call 101; refine (isName_any _ _ ‹_›).mono ?_; rintro e w' ⟨rfl, rfl⟩))
        all_goals try go_quiet (fail)
        all_goals try go_wp2
        all_goals first
          | (go_ret
             exact ⟨ret_i64 (by rw [HF.out, ← HR.out, HS.out, HL'.out]; clear HF HR HS H G HG HL HL'; simp_all [coefBad, leB]), grownBy_trans G.out (grownBy_trans (World.grownBy_alloc _ _ _) (grownBy_drewN _ _ _))⟩)
          | (go_ret
             exact ⟨ret_i64 (by rw [HF.out, ← HR.out, HS.out, HL'.out]; clear HF HR HS H G HG HL HL'; simp_all [coefBad]), grownBy_trans G.out (World.grownBy_alloc _ _ _)⟩)
          | (go_roundw
             case rel => exact ⟨m + 1 + 1, by omega, by go_num, by show _ = _; rw [HL.out, ← HR.out, HS.out, HL'.out]; clear HF HR HS H G HG HL HL'; simp_all [coefBad, leB], grownBy_trans HG.out (grownBy_trans (World.grownBy_alloc _ _ _) (grownBy_drewN _ _ _))⟩
             case measure => simp [intOf]; omega)
    · obtain rfl : k = ts.length := by omega
      go_wp2
      go_ret
      exact ⟨ret_i64 (by rw [HF.out, ← HR.out]; simp [termsErr]), grownBy_trans (World.grownBy_alloc _ _ _) HG.out⟩

end Go.Proofs.YtfilcaolgfghcaaGreat
