/-
 The errors of a form: wbref1.FormFault and nest.CheckForm say the same of every form. The errors of a form over some variables. nest.CheckForm; the errors of a form over some variables. Sets, as they lie in memory; what is wrong with them. wbref1.SetFault: the error of a set. What a form without an error is: names that rise, so that no two are one.
-/
import Derived.Test.YtgeklmigfhhpfaaGreatDoorQ01
namespace Go.Proofs.YtgeklmigfhhpfaaGreatDoor
open Go.RowKit
def TermAt (w : World) (p : Option Addr) (t : ByteArray × Int) (j : Nat) : Prop :=
 ∃ b off, p = some ⟨b, off, none⟩ ∧ t.1.size ≤ maxLen ∧ -9223372036854775808 ≤ t.2 ∧ t.2 ≤ 9223372036854775807 ∧
     w.cell? ⟨b, off + j * 2, none⟩ = some (.string t.1) ∧ w.cell? ⟨b, off + j * 2 + 1, none⟩ = some (.int .i64 t.2)
def TermsAt (w : World) (v : Value) (ts : List (ByteArray × Int)) : Prop :=
 ∃ p cap, v = .slice p ts.length cap ∧ ts.length ≤ maxLen ∧ ∀ j t, ts[j]? = some t → TermAt w p t j
theorem TermAt.kept {w w' : World} {p : Option Addr} {t : ByteArray × Int} {j : Nat} (h : TermAt w p t j) (hg : w.grownBy w' none) : TermAt w' p t j := by
 obtain ⟨b, off, hp, h1, h2, h3, h4, h5⟩ := h
 exact ⟨b, off, hp, h1, h2, h3, hg.cell h4 (by simp), hg.cell h5 (by simp)⟩
theorem TermsAt.kept {w w' : World} {v : Value} {ts : List (ByteArray × Int)} (h : TermsAt w v ts) (hg : w.grownBy w' none) : TermsAt w' v ts := by
 obtain ⟨p, cap, hv, hl, hc⟩ := h
 exact ⟨p, cap, hv, hl, fun j t hj => (hc j t hj).kept hg⟩
def leB (a b : ByteArray) : Bool := Op.bytesLess a.toList b.toList || a.toList == b.toList
def coefBad (z : Int) : Bool := z == 0 || !inB z (-1000) 1000
def termsErr : ByteArray → List (ByteArray × Int) → Int
 | _, [] => 0
 | last, t :: r => if nameB t.1 then (if coefBad t.2 then 1 else if leB t.1 last then 7 else termsErr t.1 r) else 5
def formErr (c : Int) (ts : List (ByteArray × Int)) : Int := if inB c (-1000000) 1000000 then (if 12 < ts.length then 2 else termsErr ByteArray.empty ts) else 1
theorem termsErr_drop {ts : List (ByteArray × Int)} {k : Nat} {t : ByteArray × Int} (last : ByteArray) (h : ts[k]? = some t) :
  termsErr last (ts.drop k) = if nameB t.1 then (if coefBad t.2 then 1 else if leB t.1 last then 7 else termsErr t.1 (ts.drop (k + 1))) else 5 := by
 obtain ⟨hk, rfl⟩ := List.getElem?_eq_some_iff.1 h
 rw [List.drop_eq_getElem_cons hk]
 rfl
theorem ret_i64 {a b : Int} (h : a = b) : Ending.returned (.int .i64 a) = .returned (.int .i64 b) := by rw [h]
set_option maxHeartbeats 1000000 in
theorem formFault_at (c : Int) (ts : List (ByteArray × Int)) (p : Option Addr) (cap : Nat) (w : World) (hl : ts.length ≤ maxLen)
  (hc : ∀ j t, ts[j]? = some t → TermAt w p t j) :
  Calls Tryz.prog 24 #[.agg #[.int .i64 c, .slice p ts.length cap]] w (Gives (.int .i64 (formErr c ts)) w) := by
 unfold maxLen at hl
 have H := uH hc
 clear hc
 cases hcc : inB c (-1000000) 1000000
 · go_enter Tryz.func24, Tryz.ntmps24
   go_wp2_with (first | (go_at_call 41; refine (in_any _ _ _ _).mono ?_; rintro e w' ⟨rfl, rfl⟩))
   go_ret
   exact ⟨ret_i64 (by simp [formErr, hcc]), gA _ _ _⟩
 by_cases hll : 12 < ts.length
 · go_enter Tryz.func24, Tryz.ntmps24
   go_wp2_with (first | (go_at_call 41; refine (in_any _ _ _ _).mono ?_; rintro e w' ⟨rfl, rfl⟩))
   go_ret
   exact ⟨ret_i64 (by simp [formErr, hcc, hll]), gA _ _ _⟩
 have HF := uH (show formErr c ts = termsErr ByteArray.empty ts by simp [formErr, hcc, hll])
 go_enter Tryz.func24, Tryz.ntmps24
 go_wp2_with (first | (go_at_call 41; refine (in_any _ _ _ _).mono ?_; rintro e w' ⟨rfl, rfl⟩))
 go_loopw [3, 17] (fun last i wr => ∃ k : Nat, ∃ s : ByteArray, k ≤ ts.length ∧ i = .int .i64 k ∧ last = .string s ∧ Hid (termsErr s (ts.drop k) = termsErr ByteArray.empty ts) ∧ w.grownBy wr none) (fun _ i _ => ts.length - (intOf i).toNat)
 case atStart => exact ⟨0, ByteArray.empty, Nat.zero_le _, rfl, rfl, rfl, gA _ _ _⟩
 case round =>
  obtain ⟨k, s, hk, rfl, rfl, HR, hg⟩ := hrel
  by_cases hlt : k < ts.length
  · have h0 := List.getElem?_eq_getElem hlt
    obtain ⟨b, off, rfl, h3, h4, h5, h6, h7⟩ := (H.out k _ h0).kept hg
    have HS := uH (termsErr_drop s h0)
    generalize hn : (ts[k]).1 = n at *
    generalize hz : (ts[k]).2 = z at *
    have G := uH hg
    clear hg h0 hn hz
    go_wp2_with (first | (go_at_call 41; refine (in_any _ _ _ _).mono ?_; rintro e w' ⟨rfl, rfl⟩) | (go_at_call 39; refine (name_any _ _ ‹_›).mono ?_; rintro e w' ⟨rfl, hg1⟩; have q0 : w'.cell? ⟨wr.heap.size, 0, none⟩ = some (.string n) := hg1.cell (by simp) (by simp); have q1 : w'.cell? ⟨wr.heap.size, 1, none⟩ = some (.int .i64 z) := hg1.cell (by simp) (by simp); have G1 := uH hg1; clear hg1))
    all_goals first
     | (go_ret
        exact ⟨ret_i64 (by rw [HF.out, ← HR.out, HS.out]; clear HF HR HS H G G1; simp_all [coefBad, leB]), gT G.out (gT (gA _ _ _) G1.out)⟩)
     | (go_roundw
        case rel => exact ⟨k + 1, n, by omega, by go_num, rfl, by show _ = _; rw [← HR.out, HS.out]; clear HF HR HS H G G1; simp_all [coefBad, leB], gT G.out (gT (gA _ _ _) G1.out)⟩
        case measure => simp [intOf]; omega)
  · obtain rfl : k = ts.length := by omega
    go_wp2
    go_ret
    exact ⟨ret_i64 (by rw [HF.out, ← HR.out]; simp [termsErr]), hg⟩
end Go.Proofs.YtgeklmigfhhpfaaGreatDoor
namespace Go.Proofs.YtgeklmigfhhpfaaGreatDoor
open Go.RowKit
def termsIn (names : List ByteArray) (ts : List (ByteArray × Int)) : Bool := ts.all fun t => containsB names t.1
def aroundErr (names : List ByteArray) (f : Int × List (ByteArray × Int)) : Int := if formErr f.1 f.2 == 0 then (if termsIn names f.2 then 0 else 16) else formErr f.1 f.2
theorem termsIn_snoc {names : List ByteArray} {ts : List (ByteArray × Int)} {k : Nat} {t : ByteArray × Int} (h : ts[k]? = some t) :
  termsIn names (ts.take (k + 1)) = (termsIn names (ts.take k) && containsB names t.1) := by
 obtain ⟨hk, rfl⟩ := List.getElem?_eq_some_iff.1 h
 unfold termsIn
 rw [List.take_succ_eq_append_getElem hk, List.all_append]
 simp
theorem termsIn_stop {names : List ByteArray} {ts : List (ByteArray × Int)} {k : Nat} {t : ByteArray × Int} (h : ts[k]? = some t) (hf : containsB names t.1 = false) : termsIn names ts = false := by
 obtain ⟨hk, rfl⟩ := List.getElem?_eq_some_iff.1 h
 rw [Bool.eq_false_iff]
 intro ha
 have := List.all_eq_true.1 ha _ (List.getElem_mem hk)
 rw [hf] at this
 exact absurd this (by simp)
set_option maxHeartbeats 1000000 in
theorem around_any (c : Int) (ts : List (ByteArray × Int)) (names : List ByteArray) (tv nv : Value) (w : World) (ht : TermsAt w tv ts) (hn : StrsAt w nv names) :
  Calls Tryz.prog 42 #[.agg #[.int .i64 c, tv], nv] w (Gives (.int .i64 (aroundErr names (c, ts))) w) := by
 obtain ⟨p, cap, rfl, hl, hc⟩ := ht
 have H := uH hc
 have HN := uH hn
 have hl' := hl
 unfold maxLen at hl'
 clear hc hn
 cases hf : (formErr c ts == 0)
 · have hf' : (formErr c ts == 0) = false := hf
   go_enter Tryz.func42, Tryz.ntmps42
   go_wp2_with (first | (go_at_call 24; refine (formFault_at c ts p cap _ hl (fun j t hj => (H.out j t hj).kept (gA _ _ _))).mono ?_; rintro e w' ⟨rfl, hg1⟩; have G1 := uH hg1; clear hg1))
   go_ret
   exact ⟨ret_i64 (by simp only [aroundErr, hf']; rfl), gT (gA _ _ _) G1.out⟩
 · have hf' := uH hf
   have hf2 : formErr c ts = 0 := by simpa using hf
   clear hf
   go_enter Tryz.func42, Tryz.ntmps42
   go_wp2_with (first | (go_at_call 24; refine (formFault_at c ts p cap _ hl (fun j t hj => (H.out j t hj).kept (gA _ _ _))).mono ?_; rintro e w' ⟨rfl, hg1⟩; have q1 : w'.cell? ⟨w.heap.size, 1, none⟩ = some (.slice p ts.length cap) := hg1.cell (by simp) (by simp); have G1 := uH hg1; clear hg1))
   have HW : Hid (w.grownBy w' none) := gT (gA _ _ _) G1.out
   have HA := uH (show aroundErr names (c, ts) = if termsIn names ts then 0 else 16 by simp only [aroundErr, hf'.out]; rfl)
   clear G1 q1 hf2 hf'
   go_loopw [16] (fun i wr => ∃ k : Nat, k ≤ ts.length ∧ i = .int .i64 k ∧ Hid (termsIn names (ts.take k) = true) ∧ Hid (w.grownBy wr none)) (fun i _ => ts.length - (intOf i).toNat)
   case atStart => exact ⟨0, Nat.zero_le _, rfl, rfl, HW⟩
   case round =>
    obtain ⟨k, hk, rfl, HR, HG⟩ := hrel
    by_cases hlt : k < ts.length
    · have h0 := List.getElem?_eq_getElem hlt
      obtain ⟨b, off, rfl, h3, h4, h5, h6, h7⟩ := (H.out k _ h0).kept HG.out
      have HS := uH (termsIn_snoc (names := names) h0)
      have HT := fun h => termsIn_stop (names := names) h0 h
      generalize hn : (ts[k]).1 = n at *
      generalize hz : (ts[k]).2 = z at *
      have HT := uH HT
      clear h0 hn hz
      go_wp2_with (first | (go_at_call 40; refine (contains_any _ names _ _ (HN.out.kept (gT HG.out (gA _ _ _)))).mono ?_; rintro e w'' ⟨rfl, rfl⟩))
      · have he : containsB names n = false := by simpa using ‹(!containsB names n) = true›
        go_ret
        exact ⟨ret_i64 (by rw [HA.out, HT.out he]; rfl), gT HG.out (gA _ _ _)⟩
      · have he : containsB names n = true := by simpa using ‹(!containsB names n) = false›
        go_roundw
        case rel => exact ⟨k + 1, by omega, by go_num, by show _ = _; rw [HS.out, HR.out, he]; rfl, gT HG.out (gA _ _ _)⟩
        case measure => simp [intOf]; omega
    · obtain rfl : k = ts.length := by omega
      go_wp2
      go_ret
      exact ⟨ret_i64 (by rw [HA.out, ← List.take_length (l := ts), HR.out]; rfl), HG.out⟩
end Go.Proofs.YtgeklmigfhhpfaaGreatDoor
namespace Go.Proofs.YtgeklmigfhhpfaaGreatDoor
open Go.RowKit
set_option maxHeartbeats 400000 in
theorem within_any (n m : Int) (w : World) (h0 : 0 ≤ m) (h1 : m ≤ 1000000000) :
  Calls Tryz.prog 139 #[.int .i64 n, .int .i64 m] w (Ret (.bool (inB n (-m) m)) w) := by
 go_enter Tryz.func139, Tryz.ntmps139
 go_wp2
 all_goals
  go_ret
  exact ⟨ret_bool (by simp [inB]; try omega), rfl⟩
theorem leB_empty {n : ByteArray} (h : nameB n = true) : leB n ByteArray.empty = false := by
 have h1 : 1 ≤ n.size := by simp [nameB] at h; omega
 have hn : n.toList ≠ [] := by
  rw [ByteArray.toList_eq]
  intro he
  have : n.data.toList.length = 0 := by rw [he]; rfl
  simp at this
  have h2 : n.size = n.data.size := rfl
  rw [h2, this] at h1
  simp at h1
 cases hl : n.toList with
 | nil => exact absurd hl hn
 | cons a l =>
   have he : ByteArray.empty.toList = [] := by rw [ByteArray.toList_eq]; rfl
   simp [leB, hl, he, Op.bytesLess]
def lastName (ts : List (ByteArray × Int)) (k : Nat) : ByteArray := match (ts.take k).getLast? with | some t => t.1 | none => ByteArray.empty
theorem lastName_succ {ts : List (ByteArray × Int)} {k : Nat} {t : ByteArray × Int} (h : ts[k]? = some t) : lastName ts (k + 1) = t.1 := by
 obtain ⟨hk, rfl⟩ := List.getElem?_eq_some_iff.1 h
 unfold lastName
 rw [List.take_succ_eq_append_getElem hk, List.getLast?_append]
 simp
set_option maxHeartbeats 1000000 in
theorem checkForm_at (c : Int) (ts : List (ByteArray × Int)) (p : Option Addr) (cap : Nat) (w : World) (hl : ts.length ≤ maxLen)
  (hc : ∀ j t, ts[j]? = some t → TermAt w p t j) :
  Calls Tryz.prog 108 #[.agg #[.int .i64 c, .slice p ts.length cap]] w (Gives (.int .i64 (formErr c ts)) w) := by
 unfold maxLen at hl
 have H := uH hc
 clear hc
 cases hcc : inB c (-1000000) 1000000
 · go_enter Tryz.func108, Tryz.ntmps108
   go_wp2_with (first | (go_at_call 139; refine (within_any _ _ _ (by omega) (by omega)).mono ?_; rintro e w' ⟨rfl, rfl⟩))
   go_ret
   exact ⟨ret_i64 (by simp [formErr, hcc]), gA _ _ _⟩
 by_cases hll : 12 < ts.length
 · go_enter Tryz.func108, Tryz.ntmps108
   go_wp2_with (first | (go_at_call 139; refine (within_any _ _ _ (by omega) (by omega)).mono ?_; rintro e w' ⟨rfl, rfl⟩))
   go_ret
   exact ⟨ret_i64 (by simp [formErr, hcc, hll]), gA _ _ _⟩
 have HF := uH (show formErr c ts = termsErr ByteArray.empty ts by simp [formErr, hcc, hll])
 go_enter Tryz.func108, Tryz.ntmps108
 go_wp2_with (first | (go_at_call 139; refine (within_any _ _ _ (by omega) (by omega)).mono ?_; rintro e w' ⟨rfl, rfl⟩))
 go_loopw [16] (fun i wr => ∃ k : Nat, k ≤ ts.length ∧ i = .int .i64 k ∧ Hid (termsErr (lastName ts k) (ts.drop k) = termsErr ByteArray.empty ts) ∧ Hid ((w.alloc (.cells #[.int .i64 c, .slice p ts.length cap] 35)).grownBy wr none)) (fun i _ => ts.length - (intOf i).toNat)
 case atStart => exact ⟨0, Nat.zero_le _, rfl, rfl, gR _ _⟩
 case round =>
  obtain ⟨k, hk, rfl, HR, HG⟩ := hrel
  by_cases hlt : k < ts.length
  · have h0 := List.getElem?_eq_getElem hlt
    have hgw : w.grownBy wr none := gT (gA _ _ _) HG.out
    obtain ⟨b, off, rfl, h3, h4, h5, h6, h7⟩ := (H.out k _ h0).kept hgw
    have HS := uH (termsErr_drop (lastName ts k) h0)
    have HL := uH (lastName_succ h0)
    generalize hn : (ts[k]).1 = n at *
    generalize hz : (ts[k]).2 = z at *
    have G := uH hgw
    have hbox : wr.cell? ⟨w.heap.size, 1, none⟩ = some (.slice (some ⟨b, off, none⟩) ts.length cap) := HG.out.cell (by simp) (by simp)
    clear hgw h0 hn hz
    by_cases hk0 : k = 0
    · subst hk0
      simp only [Nat.zero_mul, Nat.add_zero] at h6 h7
      have HL0 := uH (show lastName ts 0 = ByteArray.empty from rfl)
      go_wp2_with (first | (go_at_call 139; refine (within_any _ _ _ (by omega) (by omega)).mono ?_; rintro e w' ⟨rfl, rfl⟩) | (go_at_call 140; refine (isName_any _ _ ‹_›).mono ?_; rintro e w' ⟨rfl, rfl⟩))
      all_goals try go_quiet (fail)
      all_goals try go_wp2
      all_goals first
       | (go_ret
          exact ⟨ret_i64 (by rw [HF.out, ← HR.out, HS.out]; clear HF HR HS H G HG HL; simp_all [coefBad]), gT G.out (gA _ _ _)⟩)
       | (have hN : nameB n = true := by clear HF HR HS H G HG HL; simp_all
          have hE := uH (leB_empty hN)
          go_roundw
          case rel => exact ⟨1, by omega, by go_num, by show _ = _; rw [HL.out, ← HR.out, HS.out, HL0.out, hE.out]; clear HF HR HS H G HG HL; simp_all [coefBad], gT HG.out (gT (gA _ _ _) (grownBy_drewN _ _ _))⟩
          case measure => simp [intOf]; omega)
    · obtain ⟨m, rfl⟩ := Nat.exists_eq_succ_of_ne_zero hk0
      have hm0 : m < ts.length := by omega
      obtain ⟨b', off', hbb, _, _, _, h6', _⟩ := (H.out m _ (List.getElem?_eq_getElem hm0)).kept G.out
      have HL' := uH (lastName_succ (List.getElem?_eq_getElem hm0))
      generalize hn' : (ts[m]).1 = n' at *
      simp only [Option.some.injEq, Addr.mk.injEq] at hbb
      obtain ⟨rfl, rfl, _⟩ := hbb
      have a1 : (wr.alloc (.cells #[.string n, .int .i64 z] 65)).cell? ⟨w.heap.size, 1, none⟩ = some (.slice (some ⟨b, off, none⟩) ts.length cap) := (gA _ _ none).cell hbox (by simp)
      have a2 : (wr.alloc (.cells #[.string n, .int .i64 z] 65)).cell? ⟨b, off + m * 2, none⟩ = some (.string n') := (gA _ _ none).cell h6' (by simp)
      clear hn' hbox h6'
      go_wp2_with (first | (go_at_call 139; refine (within_any _ _ _ (by omega) (by omega)).mono ?_; rintro e w' ⟨rfl, rfl⟩) | (go_at_call 140; refine (isName_any _ _ ‹_›).mono ?_; rintro e w' ⟨rfl, rfl⟩))
      all_goals try go_quiet (fail)
      all_goals try go_wp2
      all_goals first
       | (go_ret
          exact ⟨ret_i64 (by rw [HF.out, ← HR.out, HS.out, HL'.out]; clear HF HR HS H G HG HL HL'; simp_all [coefBad, leB]), gT G.out (gT (gA _ _ _) (grownBy_drewN _ _ _))⟩)
       | (go_ret
          exact ⟨ret_i64 (by rw [HF.out, ← HR.out, HS.out, HL'.out]; clear HF HR HS H G HG HL HL'; simp_all [coefBad]), gT G.out (gA _ _ _)⟩)
       | (go_roundw
          case rel => exact ⟨m + 1 + 1, by omega, by go_num, by show _ = _; rw [HL.out, ← HR.out, HS.out, HL'.out]; clear HF HR HS H G HG HL HL'; simp_all [coefBad, leB], gT HG.out (gT (gA _ _ _) (grownBy_drewN _ _ _))⟩
          case measure => simp [intOf]; omega)
  · obtain rfl : k = ts.length := by omega
    go_wp2
    go_ret
    exact ⟨ret_i64 (by rw [HF.out, ← HR.out]; simp [termsErr]), gT (gA _ _ _) HG.out⟩
end Go.Proofs.YtgeklmigfhhpfaaGreatDoor
namespace Go.Proofs.YtgeklmigfhhpfaaGreatDoor
open Go.RowKit
theorem gO {a b c : World} {r : Option Nat} (h : a.grownBy b none) (k : b.grownBy c r) (hr : ∀ i, r = some i → a.heap.size ≤ i) : a.grownBy c none :=
 ⟨k.os.trans h.os, k.tape.trans h.tape, k.output.trans h.output, Nat.le_trans h.size k.size,
   fun i hi _ => (k.block i (Nat.lt_of_lt_of_le hi h.size) (fun e => by have := hr i e.symm; omega)).trans (h.block i hi (by simp))⟩
theorem strs_of_owns {w : World} {base : Nat} {e : TypeId} {v : Value} {zs : List ByteArray} (h : w.ownsRow base e 1 v zs.length (zs.map Value.string)) (hl : zs.length ≤ maxLen) : StrsAt w v zs := by
 have hcells := fun g hg => World.ownsRow.cells (g := g) h hg
 rcases h.2 with ⟨rfl, hz⟩ | ⟨g, cap, cur, rfl, _⟩
 · exact ⟨none, 0, by rw [hz], hl, fun j s hj => by rw [List.length_eq_zero_iff.1 hz] at hj; simp at hj⟩
 · refine ⟨_, cap, rfl, hl, fun j s hj => ⟨g, 0, rfl, ?_⟩⟩
   have hadd : (⟨g, 0, none⟩ : Addr).add j = ⟨g, j, none⟩ := by unfold Addr.add; split <;> simp_all
   have := hcells g rfl j (.string s) (by simp [hj])
   rw [hadd] at this
   simpa using this
theorem owns_kept {w w' : World} {base : Nat} {e : TypeId} {size : Nat} {v : Value} {n : Nat} {xs : List Value} (h : w.ownsRow base e size v n xs) (hg : w.grownBy w' none) : w'.ownsRow base e size v n xs :=
 h.kept hg (by cases v.ownBlock <;> simp)
theorem news_at {w : World} {news : List Value} {e : TypeId} : ∀ j u, news[j]? = some u → (w.alloc (.cells news.toArray e)).cell? ((⟨w.heap.size, 0, none⟩ : Addr).add j) = some u := by
 intro j u hj
 have hadd : (⟨w.heap.size, 0, none⟩ : Addr).add j = ⟨w.heap.size, j, none⟩ := by unfold Addr.add; split <;> simp_all
 rw [hadd]
 simp [hj]
theorem append_one {P : Program} {ops : Array Oper} {rest : List Oper} {o : Oper} {a : Act} {Q : Exit → Act → World → Prop} {w : World} (hgd : o.guard = none) (s x : Operand) (t : TypeId)
  (ho : o.op = .call { callee := .builtin .append, args := #[s, x], argTypes := #[t, t] })
  (base : Nat) (e : TypeId) (i : TypeInfo) (z : Value) (size bytes : Nat) (ht : P.underlying t = some (.slice e)) (hi : P.info? e = some i) (hz : i.zero = some z)
  (hsize : i.size = size) (hby : i.bytes = bytes) (hzs : z.cells.size = size) (hsz : 0 < size) (hbb : bytes ≤ 1000)
  (v : Value) (n : Nat) (xs news : List Value) (hs : a.eval s = v) (hown : w.ownsRow base e size v n xs)
  (hx : a.eval x = .slice (some ⟨w.heap.size, 0, none⟩) 1 1) (hl : news.length = size) (h1 : ∀ u ∈ news, u.oneCell' = true)
  (hn : n ≤ 1000000) (hbase : base ≤ w.heap.size)
  (h : ∀ v' w', w'.ownsRow base e size v' (n + 1) (xs ++ news) → (∀ w0 : World, w0.heap.size ≤ base → w0.grownBy w none → w0.grownBy w' none) → wpList P ops Q rest (a.put o.dst v') w') :
  wpList P ops Q (o :: rest) a (w.alloc (.cells news.toArray e)) := by
 refine wpList_append_own _ hgd s x t ho base e i z size bytes ht hi hz hsize hby hzs hsz v n xs hs (hown.alloc _) ⟨w.heap.size, 0, none⟩ 1 1 news hx (by omega) news_at h1 (by unfold maxLen; omega) ?_ (by simp; omega) ?_
 · have : (n + 1) * bytes ≤ 1000001 * 1000 := Nat.mul_le_mul (by omega) hbb
   omega
 · intro v' w' ho' hg _
   refine h v' w' ho' fun w0 h0 hw0 => gO (gT hw0 (gA _ _ _)) hg fun k hk => ?_
   have := (hown.lt k hk).1
   omega
abbrev SideD := ByteArray × Int × Int
abbrev CondD := Int × List (ByteArray × Int)
def SideAt (w : World) (p : Option Addr) (s : SideD) (j : Nat) : Prop :=
 ∃ b off, p = some ⟨b, off, none⟩ ∧ s.1.size ≤ maxLen ∧ (-9223372036854775808 ≤ s.2.1 ∧ s.2.1 ≤ 9223372036854775807) ∧ (-9223372036854775808 ≤ s.2.2 ∧ s.2.2 ≤ 9223372036854775807) ∧
   w.cell? ⟨b, off + j * 3, none⟩ = some (.string s.1) ∧ w.cell? ⟨b, off + j * 3 + 1, none⟩ = some (.int .i64 s.2.1) ∧ w.cell? ⟨b, off + j * 3 + 2, none⟩ = some (.int .i64 s.2.2)
def CondAt (w : World) (p : Option Addr) (f : CondD) (j : Nat) : Prop :=
 ∃ b off tv, p = some ⟨b, off, none⟩ ∧ w.cell? ⟨b, off + j * 2, none⟩ = some (.int .i64 f.1) ∧ w.cell? ⟨b, off + j * 2 + 1, none⟩ = some tv ∧ TermsAt w tv f.2 ∧
   -9223372036854775808 ≤ f.1 ∧ f.1 ≤ 9223372036854775807
theorem SideAt.kept {w w' : World} {p : Option Addr} {s : SideD} {j : Nat} (h : SideAt w p s j) (hg : w.grownBy w' none) : SideAt w' p s j := by
 obtain ⟨b, off, hp, h1, h2, h3, h4, h5, h6⟩ := h
 exact ⟨b, off, hp, h1, h2, h3, hg.cell h4 (by simp), hg.cell h5 (by simp), hg.cell h6 (by simp)⟩
theorem CondAt.kept {w w' : World} {p : Option Addr} {f : CondD} {j : Nat} (h : CondAt w p f j) (hg : w.grownBy w' none) : CondAt w' p f j := by
 obtain ⟨b, off, tv, hp, h1, h2, h3, h4, h5⟩ := h
 exact ⟨b, off, tv, hp, hg.cell h1 (by simp), hg.cell h2 (by simp), h3.kept hg, h4, h5⟩
def SidesAt (w : World) (v : Value) (l : List SideD) : Prop :=
 ∃ p cap, v = .slice p l.length cap ∧ (l.length ≤ 1000000 ∧ l.length ≤ cap) ∧ ∀ j s, l[j]? = some s → SideAt w p s j
def CondsAt (w : World) (v : Value) (l : List CondD) : Prop :=
 ∃ p cap, v = .slice p l.length cap ∧ l.length ≤ 1000000 ∧ ∀ j f, l[j]? = some f → CondAt w p f j
theorem SidesAt.kept {w w' : World} {v : Value} {l : List SideD} (h : SidesAt w v l) (hg : w.grownBy w' none) : SidesAt w' v l := by
 obtain ⟨p, cap, hv, hl, hc⟩ := h
 exact ⟨p, cap, hv, hl, fun j t hj => (hc j t hj).kept hg⟩
theorem CondsAt.kept {w w' : World} {v : Value} {l : List CondD} (h : CondsAt w v l) (hg : w.grownBy w' none) : CondsAt w' v l := by
 obtain ⟨p, cap, hv, hl, hc⟩ := h
 exact ⟨p, cap, hv, hl, fun j t hj => (hc j t hj).kept hg⟩
def SetAt (w : World) (sv cv : Value) (S : List SideD × List CondD) : Prop := SidesAt w sv S.1 ∧ CondsAt w cv S.2
theorem SetAt.kept {w w' : World} {sv cv : Value} {S : List SideD × List CondD} (h : SetAt w sv cv S) (hg : w.grownBy w' none) : SetAt w' sv cv S := ⟨h.1.kept hg, h.2.kept hg⟩
def sideBad (lo hi : Int) : Bool := !inB lo (-1000000) 1000000 || !inB hi (-1000000) 1000000
def sidesErr : List ByteArray → List SideD → Int
 | _, [] => 0
 | seen, s :: r => if nameB s.1 then (if containsB seen s.1 then 6 else if sideBad s.2.1 s.2.2 then 1 else sidesErr (seen ++ [s.1]) r) else 5
def namesOf (l : List SideD) : List ByteArray := l.map (·.1)
def condsErr (names : List ByteArray) : List CondD → Int
 | [] => 0
 | f :: r => if aroundErr names f == 0 then condsErr names r else aroundErr names f
def emptyB (l : List SideD) : Bool := l.any fun s => decide (s.2.2 < s.2.1)
def boxOver : Int → List SideD → Bool
 | _, [] => false
 | n, s :: r => if 200000 < n * (s.2.2 - s.2.1 + 1) then true else boxOver (n * (s.2.2 - s.2.1 + 1)) r
def setErr (S : List SideD × List CondD) : Int :=
 if 8 < S.1.length then 2 else if sidesErr [] S.1 == 0 then (if 60 < S.2.length then 2 else if condsErr (namesOf S.1) S.2 == 0 then (if emptyB S.1 then 0 else if boxOver 1 S.1 then 12 else 0) else condsErr (namesOf S.1) S.2)
  else sidesErr [] S.1
theorem sidesErr_drop {l : List SideD} {k : Nat} {s : SideD} (seen : List ByteArray) (h : l[k]? = some s) :
  sidesErr seen (l.drop k) = if nameB s.1 then (if containsB seen s.1 then 6 else if sideBad s.2.1 s.2.2 then 1 else sidesErr (seen ++ [s.1]) (l.drop (k + 1))) else 5 := by
 obtain ⟨hk, rfl⟩ := List.getElem?_eq_some_iff.1 h
 rw [List.drop_eq_getElem_cons hk]
 rfl
theorem condsErr_drop {names : List ByteArray} {l : List CondD} {k : Nat} {f : CondD} (h : l[k]? = some f) :
  condsErr names (l.drop k) = if aroundErr names (f.1, f.2) == 0 then condsErr names (l.drop (k + 1)) else aroundErr names (f.1, f.2) := by
 obtain ⟨hk, rfl⟩ := List.getElem?_eq_some_iff.1 h
 rw [List.drop_eq_getElem_cons hk]
 rfl
theorem namesOf_take {l : List SideD} {k : Nat} {s : SideD} (h : l[k]? = some s) : namesOf (l.take (k + 1)) = namesOf (l.take k) ++ [s.1] := by
 obtain ⟨hk, rfl⟩ := List.getElem?_eq_some_iff.1 h
 unfold namesOf
 rw [List.take_succ_eq_append_getElem hk, List.map_append]
 rfl
theorem namesOf_len (l : List SideD) (k : Nat) (hk : k ≤ l.length) : (namesOf (l.take k)).length = k := by simp [namesOf]; omega
theorem emptyB_snoc {l : List SideD} {k : Nat} {s : SideD} (h : l[k]? = some s) : emptyB (l.take (k + 1)) = (emptyB (l.take k) || decide (s.2.2 < s.2.1)) := by
 obtain ⟨hk, rfl⟩ := List.getElem?_eq_some_iff.1 h
 unfold emptyB
 rw [List.take_succ_eq_append_getElem hk, List.any_append]
 simp
theorem emptyB_stop {l : List SideD} {k : Nat} {s : SideD} (h : l[k]? = some s) (hs : s.2.2 < s.2.1) : emptyB l = true := by
 obtain ⟨hk, rfl⟩ := List.getElem?_eq_some_iff.1 h
 exact List.any_eq_true.2 ⟨_, List.getElem_mem hk, by simpa using hs⟩
theorem not_empty {l : List SideD} (h : emptyB l = false) {s : SideD} (hs : s ∈ l) : s.2.1 ≤ s.2.2 := by
 have := List.any_eq_false.1 h s hs
 simp at this
 exact this
theorem side_range {lo hi : Int} (h : sideBad lo hi = false) : -1000000 ≤ lo ∧ lo ≤ 1000000 ∧ -1000000 ≤ hi ∧ hi ≤ 1000000 := by
 simp [sideBad, inB] at h
 omega
theorem boxOver_drop {l : List SideD} {k : Nat} {s : SideD} (n : Int) (h : l[k]? = some s) :
  boxOver n (l.drop k) = if 200000 < n * (s.2.2 - s.2.1 + 1) then true else boxOver (n * (s.2.2 - s.2.1 + 1)) (l.drop (k + 1)) := by
 obtain ⟨hk, rfl⟩ := List.getElem?_eq_some_iff.1 h
 rw [List.drop_eq_getElem_cons hk]
 rfl
theorem setErr_1 {S : List SideD × List CondD} {x : Int} (h8 : ¬ 8 < S.1.length) (hx : sidesErr [] S.1 = x) (hne : x ≠ 0) : setErr S = x := by
 simp [setErr, h8, hx, hne]
theorem setErr_2 {S : List SideD × List CondD} (h8 : ¬ 8 < S.1.length) (hx : sidesErr [] S.1 = 0) (h60 : 60 < S.2.length) : setErr S = 2 := by
 simp [setErr, h8, hx, h60]
theorem setErr_3 {S : List SideD × List CondD} {x : Int} (h8 : ¬ 8 < S.1.length) (hx : sidesErr [] S.1 = 0) (h60 : ¬ 60 < S.2.length) (hc : condsErr (namesOf S.1) S.2 = x) (hne : x ≠ 0) : setErr S = x := by
 simp [setErr, h8, hx, h60, hc, hne]
theorem setErr_4 {S : List SideD × List CondD} (h8 : ¬ 8 < S.1.length) (hx : sidesErr [] S.1 = 0) (h60 : ¬ 60 < S.2.length) (hc : condsErr (namesOf S.1) S.2 = 0) :
  setErr S = if emptyB S.1 then 0 else if boxOver 1 S.1 then 12 else 0 := by
 simp [setErr, h8, hx, h60, hc]
theorem sides_good {l : List SideD} : ∀ seen, sidesErr seen l = 0 → ∀ s ∈ l, nameB s.1 = true ∧ sideBad s.2.1 s.2.2 = false := by
 induction l with
 | nil => intro _ _ s hs; cases hs
 | cons x r ih =>
   intro seen h s hs
   simp only [sidesErr] at h
   split at h
   · split at h
     · cases h
     · split at h
       · cases h
       · rcases List.mem_cons.1 hs with rfl | hs
         · exact ⟨by assumption, by simpa using ‹¬ sideBad _ _ = true›⟩
         · exact ih _ h s hs
   · cases h
end Go.Proofs.YtgeklmigfhhpfaaGreatDoor
namespace Go.Proofs.YtgeklmigfhhpfaaGreatDoor
open Go.RowKit
theorem Tryz.infoStr : (Tryz.prog.info? 9).map (fun i => (i.zero, i.size, i.bytes)) = some (some (.string ByteArray.empty), 1, 16) := by kernel_rfl
set_option maxRecDepth 100000 in
set_option maxHeartbeats 2000000 in
theorem setFault_any (S : List SideD × List CondD) (sv cv : Value) (w : World) (hS : SetAt w sv cv S) :
  Calls Tryz.prog 8 #[.agg #[sv, cv]] w (Gives (.int .i64 (setErr S)) w) := by
 obtain ⟨sides, conds⟩ := S
 obtain ⟨⟨p, cap, hsv, ⟨hl, _⟩, hc⟩, hcv⟩ := hS
 simp only at hsv hl hc hcv
 subst hsv
 have H := uH hc
 have HC := uH hcv
 clear hc hcv
 obtain ⟨i0, hi, hz0, hz1, hz2⟩ := info_parts Tryz.infoStr
 by_cases hlen8 : 8 < sides.length
 · go_enter Tryz.func8, Tryz.ntmps8
   go_wp2
   go_ret
   exact ⟨ret_i64 (by simp [setErr, hlen8]), gA _ _ _⟩
 go_enter Tryz.func8, Tryz.ntmps8
 go_wp2
 go_loopw [3, 21] (fun nv i wr => ∃ k : Nat, k ≤ sides.length ∧ i = .int .i64 k ∧ Hid (sidesErr (namesOf (sides.take k)) (sides.drop k) = sidesErr [] sides) ∧
   Hid ((w.alloc (.cells #[.slice p sides.length cap, cv] 29)).grownBy wr none) ∧
   Hid (wr.ownsRow (w.heap.size + 1) 9 1 nv (namesOf (sides.take k)).length ((namesOf (sides.take k)).map Value.string))) (fun _ i _ => sides.length - (intOf i).toNat)
 case atStart => exact ⟨0, Nat.zero_le _, rfl, rfl, gR _ _, World.ownsRow_nil _ _ _ _⟩
 case round =>
  obtain ⟨k, hk, rfl, HR, HG, HO⟩ := hrel
  by_cases hlt : k < sides.length
  · have h0 := List.getElem?_eq_getElem hlt
    have hgw : w.grownBy wr none := gT (gA _ _ _) HG.out
    obtain ⟨b, off, rfl, h3, ⟨h4, h4'⟩, ⟨h5, h5'⟩, h6, h7, h8⟩ := (H.out k _ h0).kept hgw
    have HS := uH (sidesErr_drop (namesOf (sides.take k)) h0)
    have HL := uH (namesOf_take h0)
    generalize hn : (sides[k]).1 = n at *
    generalize hlo : (sides[k]).2.1 = lo at *
    generalize hhi : (sides[k]).2.2 = hi' at *
    have G := uH hgw
    have hnl := uH (namesOf_len sides k hk)
    clear hgw h0 hn hlo hhi
    go_wp2_with (first | (go_at_call 41; refine (in_any _ _ _ _).mono ?_; rintro e w' ⟨rfl, rfl⟩) | (go_at_call 39; refine (name_any _ _ ‹_›).mono ?_; rintro e w' ⟨rfl, hg1⟩; have q0 : w'.cell? ⟨wr.heap.size, 0, none⟩ = some (.string n) := hg1.cell (by simp) (by simp); have q1 : w'.cell? ⟨wr.heap.size, 1, none⟩ = some (.int .i64 lo) := hg1.cell (by simp) (by simp); have q2 : w'.cell? ⟨wr.heap.size, 2, none⟩ = some (.int .i64 hi') := hg1.cell (by simp) (by simp); have G1 := uH hg1; clear hg1) | (go_at_call 40; refine (contains_any _ (namesOf (sides.take k)) _ _ (strs_of_owns (owns_kept HO.out (gT (gA _ _ _) G1.out)) (by rw [hnl.out]; unfold maxLen; omega))).mono ?_; rintro e w'' ⟨rfl, rfl⟩) | (at_builtin; refine append_one rfl _ _ 54 rfl (w.heap.size + 1) 9 i0 (.string ByteArray.empty) 1 16 Tryz.underlying54 hi hz0 hz1 hz2 rfl (by decide) (by decide) _ _ _ [.string n] rfl (owns_kept HO.out (gT (gA _ _ _) G1.out)) rfl rfl (by simp [Value.oneCell']) (by rw [hnl.out]; omega) (Nat.le_trans (by have := HG.out.size; simpa using this) (Nat.le_trans (gA _ _ none).size G1.out.size)) ?_; intro v' w1 hown' hgrow'; have HO' := uH hown'; have HG' := uH hgrow'; clear hown' hgrow'))
    all_goals first
     | (go_ret
        exact ⟨ret_i64 (setErr_1 (S := (sides, conds)) hlen8 (by rw [← HR.out, HS.out]; clear HR HS H HG HO HC G G1 HL hnl; simp_all [sideBad]) (by decide)).symm, gT G.out (gT (gA _ _ _) G1.out)⟩)
     | (go_roundw
        case rel => exact ⟨k + 1, by omega, by go_num, by show _ = _; rw [HL.out, ← HR.out, HS.out]; clear HR HS H HG HO HC G G1 HL hnl; simp_all [sideBad], HG'.out _ (by simp) (gT HG.out (gT (gA _ _ _) G1.out)), by show World.ownsRow _ _ _ _ _ _ _; rw [HL.out]; simpa using HO'.out⟩
        case measure => simp [intOf]; omega)
  · obtain rfl : k = sides.length := by omega
    have hbox : wr.cell? ⟨w.heap.size, 1, none⟩ = some cv := HG.out.cell (by simp) (by simp)
    have hbox0 : wr.cell? ⟨w.heap.size, 0, none⟩ = some (.slice p sides.length cap) := HG.out.cell (by simp) (by simp)
    have HGw : Hid (w.grownBy wr none) := gT (gA _ _ _) HG.out
    have HE := uH (show sidesErr [] sides = 0 by rw [← HR.out]; simp [sidesErr])
    have HN := uH (strs_of_owns (zs := namesOf sides) (by have := HO.out; rwa [List.take_length] at this) (by simp [namesOf]; unfold maxLen; omega))
    obtain ⟨pc, ccap, rfl, hcl, hcc⟩ := HC.out
    have HCC := uH hcc
    clear hcc HR HO HC
    rename_i nv
    generalize wr = wA at *
    by_cases h60 : 60 < conds.length
    · go_wp2
      go_ret
      exact ⟨ret_i64 (setErr_2 (S := (sides, conds)) hlen8 HE.out h60).symm, HGw.out⟩
    go_wp2
    go_loopw [59] (fun i wr => ∃ k : Nat, k ≤ conds.length ∧ i = .int .i64 k ∧ Hid (condsErr (namesOf sides) (conds.drop k) = condsErr (namesOf sides) conds) ∧ Hid (wA.grownBy wr none)) (fun i _ => conds.length - (intOf i).toNat)
    case atStart => exact ⟨0, Nat.zero_le _, rfl, rfl, gR _ _⟩
    case round =>
     obtain ⟨k, hk, rfl, HR, HGA⟩ := hrel
     by_cases hlt : k < conds.length
     · have h0 := List.getElem?_eq_getElem hlt
       have hgw : w.grownBy wr none := gT HGw.out HGA.out
       obtain ⟨b, off, tv, rfl, h3, h4, h5, h6, h7⟩ := (HCC.out k _ h0).kept hgw
       have HS := uH (condsErr_drop (names := namesOf sides) h0)
       generalize hc : (conds[k]).1 = c at *
       generalize hts : (conds[k]).2 = ts at *
       obtain ⟨pt, ct, rfl, htl, htc⟩ := h5
       have HT : Hid (TermsAt wr (.slice pt ts.length ct) ts) := ⟨pt, ct, rfl, htl, htc⟩
       clear htc hc hts
       have G := uH hgw
       clear hgw h0
       go_wp2_with (first | (go_at_call 42; refine (around_any c ts (namesOf sides) (.slice pt ts.length ct) _ _ (HT.out.kept (gA _ _ _)) (HN.out.kept (gT HGA.out (gA _ _ _)))).mono ?_; rintro e w' ⟨rfl, hg1⟩; have G1 := uH hg1; clear hg1))
       · have he : aroundErr (namesOf sides) (c, ts) ≠ 0 := by simpa using ‹(aroundErr (namesOf sides) (c, ts) != 0) = true›
         go_ret
         exact ⟨ret_i64 (setErr_3 (S := (sides, conds)) hlen8 HE.out h60 (by rw [← HR.out, HS.out, if_neg (by simpa using he)]) he).symm, gT G.out (gT (gA _ _ _) G1.out)⟩
       · have he : aroundErr (namesOf sides) (c, ts) = 0 := by simpa using ‹(aroundErr (namesOf sides) (c, ts) != 0) = false›
         go_roundw
         case rel => exact ⟨k + 1, by omega, by go_num, by show _ = _; rw [← HR.out, HS.out, if_pos (by simpa using he)], gT HGA.out (gT (gA _ _ _) G1.out)⟩
         case measure => simp [intOf]; omega
     · obtain rfl : k = conds.length := by omega
       have HF := uH (setErr_4 (S := (sides, conds)) hlen8 HE.out h60 (by rw [← HR.out]; simp [condsErr]))
       have hb0 := HGA.out.cell hbox0 (by simp)
       have HGB : Hid (w.grownBy wr none) := gT HGw.out HGA.out
       clear HR HGA hbox hbox0 HCC HN HG HGw
       generalize wr = wB at *
       go_wp2
       go_loopw [73] (fun i wr => ∃ k : Nat, k ≤ sides.length ∧ i = .int .i64 k ∧ Hid (emptyB (sides.take k) = false) ∧ Hid (wB.grownBy wr none)) (fun i _ => sides.length - (intOf i).toNat)
       case atStart => exact ⟨0, Nat.zero_le _, rfl, rfl, gR _ _⟩
       case round =>
        obtain ⟨k, hk, rfl, HR, HGC⟩ := hrel
        by_cases hlt : k < sides.length
        · have h0 := List.getElem?_eq_getElem hlt
          have hgw : w.grownBy wr none := gT HGB.out HGC.out
          obtain ⟨b, off, rfl, h3, ⟨h4, h4'⟩, ⟨h5, h5'⟩, h6, h7, h8⟩ := (H.out k _ h0).kept hgw
          have HS := uH (emptyB_snoc h0)
          have HT := fun h => emptyB_stop h0 h
          generalize hn : (sides[k]).1 = n at *
          generalize hlo : (sides[k]).2.1 = lo at *
          generalize hhi : (sides[k]).2.2 = hi' at *
          have HT := uH HT
          have G := uH hgw
          clear hgw h0 hn hlo hhi
          go_wp2
          · have he : hi' < lo := by assumption
            go_ret
            exact ⟨ret_i64 (by rw [HF.out, HT.out he]; rfl), gT G.out (gA _ _ _)⟩
          · have he : ¬ hi' < lo := by omega
            go_roundw
            case rel => exact ⟨k + 1, by omega, by go_num, by show _ = _; rw [HS.out, HR.out]; simpa using he, gT HGC.out (gA _ _ _)⟩
            case measure => simp [intOf]; omega
        · obtain rfl : k = sides.length := by omega
          have HNE := uH (show emptyB sides = false by have := HR.out; rwa [List.take_length] at this)
          have hb0' := HGC.out.cell hb0 (by simp)
          have HGD : Hid (w.grownBy wr none) := gT HGB.out HGC.out
          clear HR HGC hb0 HGB
          generalize wr = wD at *
          go_wp2
          go_loopw [9, 86] (fun n i wr => ∃ k : Nat, ∃ q : Int, k ≤ sides.length ∧ i = .int .i64 k ∧ n = .int .i64 q ∧ 0 ≤ q ∧ q ≤ 200000 ∧ Hid (boxOver q (sides.drop k) = boxOver 1 sides) ∧ Hid (wD.grownBy wr none)) (fun _ i _ => sides.length - (intOf i).toNat)
          case atStart => exact ⟨0, 1, Nat.zero_le _, rfl, rfl, by omega, by omega, rfl, gR _ _⟩
          case round =>
           obtain ⟨k, q, hk, rfl, rfl, hq0, hq1, HR, HGC⟩ := hrel
           by_cases hlt : k < sides.length
           · have h0 := List.getElem?_eq_getElem hlt
             have hgw : w.grownBy wr none := gT HGD.out HGC.out
             obtain ⟨b, off, rfl, h3, ⟨h4, h4'⟩, ⟨h5, h5'⟩, h6, h7, h8⟩ := (H.out k _ h0).kept hgw
             have HS := uH (boxOver_drop q h0)
             obtain ⟨r1, r2, r3, r4⟩ := side_range (sides_good [] HE.out _ (List.getElem_mem hlt)).2
             have r5 := not_empty HNE.out (List.getElem_mem hlt)
             generalize hn : (sides[k]).1 = n at *
             generalize hlo : (sides[k]).2.1 = lo at *
             generalize hhi : (sides[k]).2.2 = hi' at *
             have G := uH hgw
             clear hgw h0 hn hlo hhi
             have m1 : 0 ≤ q * (hi' - lo + 1) := Int.mul_nonneg hq0 (by omega)
             have m2 : q * (hi' - lo + 1) ≤ 200000 * 2000001 := Int.mul_le_mul hq1 (by omega) (by omega) (by omega)
             go_wp2
             · have he : 200000 < q * (hi' - lo + 1) := by assumption
               go_ret
               exact ⟨ret_i64 (by rw [HF.out, HNE.out, ← HR.out, HS.out, if_pos he]; rfl), gT G.out (gA _ _ _)⟩
             · have he : ¬ 200000 < q * (hi' - lo + 1) := by omega
               have he' : q * (hi' - lo + 1) ≤ 200000 := by omega
               go_roundw
               case rel => exact ⟨k + 1, _, by omega, by go_num, rfl, m1, he', by show _ = _; rw [← HR.out, HS.out, if_neg he], gT HGC.out (gA _ _ _)⟩
               case measure => simp [intOf]; omega
           · obtain rfl : k = sides.length := by omega
             go_wp2
             go_ret
             exact ⟨ret_i64 (by rw [HF.out, HNE.out, ← HR.out]; simp [boxOver]), gT HGD.out HGC.out⟩
end Go.Proofs.YtgeklmigfhhpfaaGreatDoor
namespace Go.Proofs.YtgeklmigfhhpfaaGreatDoor
open Go.RowKit
theorem bytesLess_irrefl : ∀ x : List UInt8, Op.bytesLess x x = false
 | [] => rfl
 | a :: x => by simp [Op.bytesLess, bytesLess_irrefl x]
theorem bytesLess_trans : ∀ x y z : List UInt8, Op.bytesLess x y = true → Op.bytesLess y z = true → Op.bytesLess x z = true
 | _, [], _, h, _ => by simp [Op.bytesLess] at h
 | _, _ :: _, [], _, h => by simp [Op.bytesLess] at h
 | [], _ :: _, _ :: _, _, _ => rfl
 | a :: x, b :: y, c :: z, h, k => by
   simp only [Op.bytesLess, Bool.or_eq_true, decide_eq_true_eq, Bool.and_eq_true, beq_iff_eq] at h k ⊢
   rcases h with h | ⟨rfl, h⟩
   · rcases k with k | ⟨rfl, k⟩
     · exact .inl (UInt8.lt_trans h k)
     · exact .inl h
   · rcases k with k | ⟨rfl, k⟩
     · exact .inl k
     · exact .inr ⟨rfl, bytesLess_trans x y z h k⟩
theorem bytesLess_total : ∀ x y : List UInt8, Op.bytesLess x y = false → (x == y) = false → Op.bytesLess y x = true
 | [], [], _, h => by simp at h
 | _ :: _, [], _, _ => rfl
 | [], _ :: _, h, _ => by simp [Op.bytesLess] at h
 | a :: x, b :: y, h, k => by
   simp only [Op.bytesLess, Bool.or_eq_false_iff, decide_eq_false_iff_not, Bool.and_eq_false_iff, Bool.or_eq_true, decide_eq_true_eq, Bool.and_eq_true, beq_iff_eq, List.cons_beq_cons, beq_eq_false_iff_ne] at h k ⊢
   obtain ⟨h1, h2⟩ := h
   by_cases hab : a = b
   · subst hab
     refine .inr ⟨rfl, bytesLess_total x y (by rcases h2 with h2 | h2; exact absurd rfl h2; exact h2) ?_⟩
     rcases k with k | k
     · exact absurd rfl k
     · simpa using k
   · refine .inl ?_
     rcases UInt8.lt_or_lt_of_ne hab with h | h
     · exact absurd h h1
     · exact h
theorem bytes_ext {a b : ByteArray} (h : a.toList = b.toList) : a = b := by
 rw [ByteArray.toList_eq, ByteArray.toList_eq] at h
 cases a; cases b
 simp at h
 rw [h]
theorem lt_of_not_leB {a b : ByteArray} (h : leB a b = false) : Op.bytesLess b.toList a.toList = true := by
 simp only [leB, Bool.or_eq_false_iff] at h
 exact bytesLess_total _ _ h.1 h.2
theorem terms_good {l : List (ByteArray × Int)} : ∀ last, termsErr last l = 0 →
  (∀ t ∈ l, nameB t.1 = true ∧ coefBad t.2 = false ∧ Op.bytesLess last.toList t.1.toList = true) ∧ l.Pairwise (fun a b => a.1 ≠ b.1) := by
 induction l with
 | nil => intro last _; exact ⟨fun t ht => (by cases ht), List.Pairwise.nil⟩
 | cons x r ih =>
   intro last h
   simp only [termsErr] at h
   split at h
   · split at h
     · cases h
     · split at h
       · cases h
       · rename_i h1 h2 h3
         obtain ⟨i1, i2⟩ := ih _ h
         have hx := lt_of_not_leB (by simpa using h3 : leB x.1 last = false)
         refine ⟨fun t ht => ?_, List.Pairwise.cons (fun t ht he => ?_) i2⟩
         · rcases List.mem_cons.1 ht with rfl | ht
           · exact ⟨h1, by simpa using h2, hx⟩
           · obtain ⟨j1, j2, j3⟩ := i1 t ht
             exact ⟨j1, j2, bytesLess_trans _ _ _ hx j3⟩
         · have := (i1 t ht).2.2
           rw [he, bytesLess_irrefl] at this
           cases this
   · cases h
theorem form_good {c : Int} {ts : List (ByteArray × Int)} (h : formErr c ts = 0) :
  (-1000000 ≤ c ∧ c ≤ 1000000) ∧ ts.length ≤ 12 ∧ (∀ t ∈ ts, nameB t.1 = true ∧ -1000 ≤ t.2 ∧ t.2 ≤ 1000) ∧ ts.Pairwise (fun a b => a.1 ≠ b.1) := by
 simp only [formErr] at h
 split at h
 · split at h
   · cases h
   · rename_i h1 h2
     obtain ⟨i1, i2⟩ := terms_good _ h
     refine ⟨by simp [inB] at h1; exact h1, by omega, fun t ht => ?_, i2⟩
     obtain ⟨j1, j2, _⟩ := i1 t ht
     refine ⟨j1, ?_⟩
     simp [coefBad, inB] at j2
     exact j2.2
 · cases h
theorem name_ne_empty {s : ByteArray} (h : nameB s = true) : s ≠ ByteArray.empty := by
 intro e
 subst e
 simp [nameB] at h
end Go.Proofs.YtgeklmigfhhpfaaGreatDoor
