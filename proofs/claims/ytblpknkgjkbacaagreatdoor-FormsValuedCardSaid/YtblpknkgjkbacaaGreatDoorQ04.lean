/-
 The errors of a form: wbref1.FormFault and nest.CheckForm say the same of every form. The errors of a form over some variables. nest.CheckForm; the errors of a form over some variables. Sets, as they lie in memory; what is wrong with them. wbref1.SetFault: the error of a set. What a form without an error is: names that rise, so that no two are one.
-/
import Derived.Test.YtblpknkgjkbacaaGreatDoorQ02
namespace Go.Proofs.YtblpknkgjkbacaaGreatDoor
set_option linter.unusedVariables false
open Go.RowKit
/-- A term of a form, as it lies in memory: the j-th of a slice that begins at p. -/
def TermAt (w : World) (p : Option Addr) (t : ByteArray × Int) (j : Nat) : Prop :=
  ∃ b off, p = some ⟨b, off, none⟩ ∧ t.1.size ≤ maxLen ∧ -9223372036854775808 ≤ t.2 ∧ t.2 ≤ 9223372036854775807 ∧
      w.cell? ⟨b, off + j * 2, none⟩ = some (.string t.1) ∧ w.cell? ⟨b, off + j * 2 + 1, none⟩ = some (.int .i64 t.2)
/-- The terms of a form, as they lie in memory. -/
def TermsAt (w : World) (v : Value) (ts : List (ByteArray × Int)) : Prop :=
  ∃ p cap, v = .slice p ts.length cap ∧ ts.length ≤ maxLen ∧ ∀ j t, ts[j]? = some t → TermAt w p t j
theorem TermAt.kept {w w' : World} {p : Option Addr} {t : ByteArray × Int} {j : Nat} (h : TermAt w p t j) (hg : w.grownBy w' none) : TermAt w' p t j := by
  obtain ⟨b, off, hp, h1, h2, h3, h4, h5⟩ := h
  exact ⟨b, off, hp, h1, h2, h3, hg.cell h4 (by simp), hg.cell h5 (by simp)⟩
theorem TermsAt.kept {w w' : World} {v : Value} {ts : List (ByteArray × Int)} (h : TermsAt w v ts) (hg : w.grownBy w' none) : TermsAt w' v ts := by
  obtain ⟨p, cap, hv, hl, hc⟩ := h
  exact ⟨p, cap, hv, hl, fun j t hj => (hc j t hj).kept hg⟩
def leB (a b : ByteArray) : Bool := Op.bytesLess a.toList b.toList || a.toList == b.toList
def coefBad (z : Int) : Bool := z == 0 || !inB z (-1000) 1000
def termsErr : ByteArray → List (ByteArray × Int) → Int
  | _, [] => 0
  | last, t :: r => if nameB t.1 then (if coefBad t.2 then 1 else if leB t.1 last then 7 else termsErr t.1 r) else 5
def formErr (c : Int) (ts : List (ByteArray × Int)) : Int := if inB c (-1000000) 1000000 then (if 12 < ts.length then 2 else termsErr ByteArray.empty ts) else 1
theorem termsErr_drop {ts : List (ByteArray × Int)} {k : Nat} {t : ByteArray × Int} (last : ByteArray) (h : ts[k]? = some t) :
    termsErr last (ts.drop k) = if nameB t.1 then (if coefBad t.2 then 1 else if leB t.1 last then 7 else termsErr t.1 (ts.drop (k + 1))) else 5 := by
  obtain ⟨hk, rfl⟩ := List.getElem?_eq_some_iff.1 h
  rw [List.drop_eq_getElem_cons hk]
  rfl
theorem ret_i64 {a b : Int} (h : a = b) : Ending.returned (.int .i64 a) = .returned (.int .i64 b) := by rw [h]
set_option maxHeartbeats 1000000 in
theorem formFault_at (c : Int) (ts : List (ByteArray × Int)) (p : Option Addr) (cap : Nat) (w : World) (hl : ts.length ≤ maxLen)
    (hc : ∀ j t, ts[j]? = some t → TermAt w p t j) :
    Calls Tryz.prog 11 #[.agg #[.int .i64 c, .slice p ts.length cap]] w (Gives (.int .i64 (formErr c ts)) w) := by
  unfold maxLen at hl
  have H := Lib.hid hc
  clear hc
  cases hcc : inB c (-1000000) 1000000
  · go_enter Tryz.func11, Tryz.ntmps11
    go_wp2_with (first | (go_at_call 36; refine (in_any _ _ _ _).mono ?_; rintro e w' ⟨rfl, rfl⟩))
    go_ret
    exact ⟨ret_i64 (by simp [formErr, hcc]), World.grownBy_alloc _ _ _⟩
  by_cases hll : 12 < ts.length
  · go_enter Tryz.func11, Tryz.ntmps11
    go_wp2_with (first | (go_at_call 36; refine (in_any _ _ _ _).mono ?_; rintro e w' ⟨rfl, rfl⟩))
    go_ret
    exact ⟨ret_i64 (by simp [formErr, hcc, hll]), World.grownBy_alloc _ _ _⟩
  have HF := Lib.hid (show formErr c ts = termsErr ByteArray.empty ts by simp [formErr, hcc, hll])
  go_enter Tryz.func11, Tryz.ntmps11
  go_wp2_with (first | (go_at_call 36; refine (in_any _ _ _ _).mono ?_; rintro e w' ⟨rfl, rfl⟩))
  go_loopw [3, 17] (fun last i wr => ∃ k : Nat, ∃ s : ByteArray, k ≤ ts.length ∧ i = .int .i64 k ∧ last = .string s ∧ Hid (termsErr s (ts.drop k) = termsErr ByteArray.empty ts) ∧ w.grownBy wr none) (fun _ i _ => ts.length - (intOf i).toNat)
  case atStart => exact ⟨0, ByteArray.empty, Nat.zero_le _, rfl, rfl, rfl, World.grownBy_alloc _ _ _⟩
  case round =>
    obtain ⟨k, s, hk, rfl, rfl, HR, hg⟩ := hrel
    by_cases hlt : k < ts.length
    · have h0 := List.getElem?_eq_getElem hlt
      obtain ⟨b, off, rfl, h3, h4, h5, h6, h7⟩ := (H.out k _ h0).kept hg
      have HS := Lib.hid (termsErr_drop s h0)
      generalize hn : (ts[k]).1 = n at *
      generalize hz : (ts[k]).2 = z at *
      have G := Lib.hid hg
      clear hg h0 hn hz
      go_wp2_with (first | (go_at_call 36; refine (in_any _ _ _ _).mono ?_; rintro e w' ⟨rfl, rfl⟩) | (go_at_call 37; refine (name_any _ _ ‹_›).mono ?_; rintro e w' ⟨rfl, hg1⟩; have q0 : w'.cell? ⟨wr.heap.size, 0, none⟩ = some (.string n) := hg1.cell (by simp) (by simp); have q1 : w'.cell? ⟨wr.heap.size, 1, none⟩ = some (.int .i64 z) := hg1.cell (by simp) (by simp); have G1 := Lib.hid hg1; clear hg1))
      all_goals first
        | (go_ret
           exact ⟨ret_i64 (by rw [HF.out, ← HR.out, HS.out]; clear HF HR HS H G G1; simp_all [coefBad, leB]), grownBy_trans G.out (grownBy_trans (World.grownBy_alloc _ _ _) G1.out)⟩)
        | (go_roundw
           case rel => exact ⟨k + 1, n, by omega, by go_num, rfl, by show _ = _; rw [← HR.out, HS.out]; clear HF HR HS H G G1; simp_all [coefBad, leB], grownBy_trans G.out (grownBy_trans (World.grownBy_alloc _ _ _) G1.out)⟩
           case measure => simp [intOf]; omega)
    · obtain rfl : k = ts.length := by omega
      go_wp2
      go_ret
      exact ⟨ret_i64 (by rw [HF.out, ← HR.out]; simp [termsErr]), hg⟩
end Go.Proofs.YtblpknkgjkbacaaGreatDoor
namespace Go.Proofs.YtblpknkgjkbacaaGreatDoor
open Go.RowKit
set_option maxHeartbeats 400000 in
theorem within_any (n m : Int) (w : World) (h0 : 0 ≤ m) (h1 : m ≤ 1000000000) :
    Calls Tryz.prog 31 #[.int .i64 n, .int .i64 m] w (Ret (.bool (inB n (-m) m)) w) := by
  go_enter Tryz.func31, Tryz.ntmps31
  go_wp2
  all_goals
    go_ret
    exact ⟨ret_bool (by simp [inB]; try omega), rfl⟩
/-- Nothing is at most the empty string but itself. -/
theorem leB_empty {n : ByteArray} (h : nameB n = true) : leB n ByteArray.empty = false := by
  have h1 : 1 ≤ n.size := by simp [nameB] at h; omega
  have hn : n.toList ≠ [] := by
    rw [ByteArray.toList_eq]
    intro he
    have : n.data.toList.length = 0 := by rw [he]; rfl
    simp at this
    have h2 : n.size = n.data.size := rfl
    rw [h2, this] at h1
    simp at h1
  cases hl : n.toList with
  | nil => exact absurd hl hn
  | cons a l =>
    have he : ByteArray.empty.toList = [] := by rw [ByteArray.toList_eq]; rfl
    simp [leB, hl, he, Op.bytesLess]
def lastName (ts : List (ByteArray × Int)) (k : Nat) : ByteArray := match (ts.take k).getLast? with | some t => t.1 | none => ByteArray.empty
theorem lastName_succ {ts : List (ByteArray × Int)} {k : Nat} {t : ByteArray × Int} (h : ts[k]? = some t) : lastName ts (k + 1) = t.1 := by
  obtain ⟨hk, rfl⟩ := List.getElem?_eq_some_iff.1 h
  unfold lastName
  rw [List.take_succ_eq_append_getElem hk, List.getLast?_append]
  simp
set_option maxHeartbeats 1000000 in
theorem checkForm_at (c : Int) (ts : List (ByteArray × Int)) (p : Option Addr) (cap : Nat) (w : World) (hl : ts.length ≤ maxLen)
    (hc : ∀ j t, ts[j]? = some t → TermAt w p t j) :
    Calls Tryz.prog 26 #[.agg #[.int .i64 c, .slice p ts.length cap]] w (Gives (.int .i64 (formErr c ts)) w) := by
  unfold maxLen at hl
  have H := Lib.hid hc
  clear hc
  cases hcc : inB c (-1000000) 1000000
  · go_enter Tryz.func26, Tryz.ntmps26
    go_wp2_with (first | (go_at_call 31; refine (within_any _ _ _ (by omega) (by omega)).mono ?_; rintro e w' ⟨rfl, rfl⟩))
    go_ret
    exact ⟨ret_i64 (by simp [formErr, hcc]), World.grownBy_alloc _ _ _⟩
  by_cases hll : 12 < ts.length
  · go_enter Tryz.func26, Tryz.ntmps26
    go_wp2_with (first | (go_at_call 31; refine (within_any _ _ _ (by omega) (by omega)).mono ?_; rintro e w' ⟨rfl, rfl⟩))
    go_ret
    exact ⟨ret_i64 (by simp [formErr, hcc, hll]), World.grownBy_alloc _ _ _⟩
  have HF := Lib.hid (show formErr c ts = termsErr ByteArray.empty ts by simp [formErr, hcc, hll])
  go_enter Tryz.func26, Tryz.ntmps26
  go_wp2_with (first | (go_at_call 31; refine (within_any _ _ _ (by omega) (by omega)).mono ?_; rintro e w' ⟨rfl, rfl⟩))
  go_loopw [16] (fun i wr => ∃ k : Nat, k ≤ ts.length ∧ i = .int .i64 k ∧ Hid (termsErr (lastName ts k) (ts.drop k) = termsErr ByteArray.empty ts) ∧ Hid ((w.alloc (.cells #[.int .i64 c, .slice p ts.length cap] 28)).grownBy wr none)) (fun i _ => ts.length - (intOf i).toNat)
  case atStart => exact ⟨0, Nat.zero_le _, rfl, rfl, grownBy_refl _ _⟩
  case round =>
    obtain ⟨k, hk, rfl, HR, HG⟩ := hrel
    by_cases hlt : k < ts.length
    · have h0 := List.getElem?_eq_getElem hlt
      have hgw : w.grownBy wr none := grownBy_trans (World.grownBy_alloc _ _ _) HG.out
      obtain ⟨b, off, rfl, h3, h4, h5, h6, h7⟩ := (H.out k _ h0).kept hgw
      have HS := Lib.hid (termsErr_drop (lastName ts k) h0)
      have HL := Lib.hid (lastName_succ h0)
      generalize hn : (ts[k]).1 = n at *
      generalize hz : (ts[k]).2 = z at *
      have G := Lib.hid hgw
      have hbox : wr.cell? ⟨w.heap.size, 1, none⟩ = some (.slice (some ⟨b, off, none⟩) ts.length cap) := HG.out.cell (by simp) (by simp)
      clear hgw h0 hn hz
      by_cases hk0 : k = 0
      · subst hk0
        simp only [Nat.zero_mul, Nat.add_zero] at h6 h7
        have HL0 := Lib.hid (show lastName ts 0 = ByteArray.empty from rfl)
        go_wp2_with (first | (go_at_call 31; refine (within_any _ _ _ (by omega) (by omega)).mono ?_; rintro e w' ⟨rfl, rfl⟩) | (go_at_call 35; refine (isName_any _ _ ‹_›).mono ?_; rintro e w' ⟨rfl, rfl⟩))
        all_goals try go_quiet (fail)
        all_goals try go_wp2
        all_goals first
          | (go_ret
             exact ⟨ret_i64 (by rw [HF.out, ← HR.out, HS.out]; clear HF HR HS H G HG HL; simp_all [coefBad]), grownBy_trans G.out (World.grownBy_alloc _ _ _)⟩)
          | (have hN : nameB n = true := by clear HF HR HS H G HG HL; simp_all
             have hE := Lib.hid (leB_empty hN)
             go_roundw
             case rel => exact ⟨1, by omega, by go_num, by show _ = _; rw [HL.out, ← HR.out, HS.out, HL0.out, hE.out]; clear HF HR HS H G HG HL; simp_all [coefBad], grownBy_trans HG.out (grownBy_trans (World.grownBy_alloc _ _ _) (grownBy_drewN _ _ _))⟩
             case measure => simp [intOf]; omega)
      · obtain ⟨m, rfl⟩ := Nat.exists_eq_succ_of_ne_zero hk0
        have hm0 : m < ts.length := by omega
        obtain ⟨b', off', hbb, _, _, _, h6', _⟩ := (H.out m _ (List.getElem?_eq_getElem hm0)).kept G.out
        have HL' := Lib.hid (lastName_succ (List.getElem?_eq_getElem hm0))
        generalize hn' : (ts[m]).1 = n' at *
        simp only [Option.some.injEq, Addr.mk.injEq] at hbb
        obtain ⟨rfl, rfl, _⟩ := hbb
        have a1 : (wr.alloc (.cells #[.string n, .int .i64 z] 54)).cell? ⟨w.heap.size, 1, none⟩ = some (.slice (some ⟨b, off, none⟩) ts.length cap) := (World.grownBy_alloc _ _ none).cell hbox (by simp)
        have a2 : (wr.alloc (.cells #[.string n, .int .i64 z] 54)).cell? ⟨b, off + m * 2, none⟩ = some (.string n') := (World.grownBy_alloc _ _ none).cell h6' (by simp)
        clear hn' hbox h6'
        go_wp2_with (first | (go_at_call 31; refine (within_any _ _ _ (by omega) (by omega)).mono ?_; rintro e w' ⟨rfl, rfl⟩) | (go_at_call 35; refine (isName_any _ _ ‹_›).mono ?_; rintro e w' ⟨rfl, rfl⟩))
        all_goals try go_quiet (fail)
        all_goals try go_wp2
        all_goals first
          | (go_ret
             exact ⟨ret_i64 (by rw [HF.out, ← HR.out, HS.out, HL'.out]; clear HF HR HS H G HG HL HL'; simp_all [coefBad, leB]), grownBy_trans G.out (grownBy_trans (World.grownBy_alloc _ _ _) (grownBy_drewN _ _ _))⟩)
          | (go_ret
             exact ⟨ret_i64 (by rw [HF.out, ← HR.out, HS.out, HL'.out]; clear HF HR HS H G HG HL HL'; simp_all [coefBad]), grownBy_trans G.out (World.grownBy_alloc _ _ _)⟩)
          | (go_roundw
             case rel => exact ⟨m + 1 + 1, by omega, by go_num, by show _ = _; rw [HL.out, ← HR.out, HS.out, HL'.out]; clear HF HR HS H G HG HL HL'; simp_all [coefBad, leB], grownBy_trans HG.out (grownBy_trans (World.grownBy_alloc _ _ _) (grownBy_drewN _ _ _))⟩
             case measure => simp [intOf]; omega)
    · obtain rfl : k = ts.length := by omega
      go_wp2
      go_ret
      exact ⟨ret_i64 (by rw [HF.out, ← HR.out]; simp [termsErr]), grownBy_trans (World.grownBy_alloc _ _ _) HG.out⟩
end Go.Proofs.YtblpknkgjkbacaaGreatDoor
namespace Go.Proofs.YtblpknkgjkbacaaGreatDoor
open Go.RowKit
theorem grown_own {a b c : World} {r : Option Nat} (h : a.grownBy b none) (k : b.grownBy c r) (hr : ∀ i, r = some i → a.heap.size ≤ i) : a.grownBy c none :=
  ⟨k.os.trans h.os, k.tape.trans h.tape, k.output.trans h.output, Nat.le_trans h.size k.size,
    fun i hi _ => (k.block i (Nat.lt_of_lt_of_le hi h.size) (fun e => by have := hr i e.symm; omega)).trans (h.block i hi (by simp))⟩
theorem owns_kept {w w' : World} {base : Nat} {e : TypeId} {size : Nat} {v : Value} {n : Nat} {xs : List Value} (h : w.ownsRow base e size v n xs) (hg : w.grownBy w' none) : w'.ownsRow base e size v n xs :=
  h.kept hg (by cases v.ownBlock <;> simp)
theorem news_at {w : World} {news : List Value} {e : TypeId} : ∀ j u, news[j]? = some u → (w.alloc (.cells news.toArray e)).cell? ((⟨w.heap.size, 0, none⟩ : Addr).add j) = some u := by
  intro j u hj
  have hadd : (⟨w.heap.size, 0, none⟩ : Addr).add j = ⟨w.heap.size, j, none⟩ := by unfold Addr.add; split <;> simp_all
  rw [hadd]
  simp [hj]
abbrev CondD := Int × List (ByteArray × Int)
def CondAt (w : World) (p : Option Addr) (f : CondD) (j : Nat) : Prop :=
  ∃ b off tv, p = some ⟨b, off, none⟩ ∧ w.cell? ⟨b, off + j * 2, none⟩ = some (.int .i64 f.1) ∧ w.cell? ⟨b, off + j * 2 + 1, none⟩ = some tv ∧ TermsAt w tv f.2 ∧
    -9223372036854775808 ≤ f.1 ∧ f.1 ≤ 9223372036854775807
theorem CondAt.kept {w w' : World} {p : Option Addr} {f : CondD} {j : Nat} (h : CondAt w p f j) (hg : w.grownBy w' none) : CondAt w' p f j := by
  obtain ⟨b, off, tv, hp, h1, h2, h3, h4, h5⟩ := h
  exact ⟨b, off, tv, hp, hg.cell h1 (by simp), hg.cell h2 (by simp), h3.kept hg, h4, h5⟩
def CondsAt (w : World) (v : Value) (l : List CondD) : Prop :=
  ∃ p cap, v = .slice p l.length cap ∧ l.length ≤ 1000000 ∧ ∀ j f, l[j]? = some f → CondAt w p f j
theorem CondsAt.kept {w w' : World} {v : Value} {l : List CondD} (h : CondsAt w v l) (hg : w.grownBy w' none) : CondsAt w' v l := by
  obtain ⟨p, cap, hv, hl, hc⟩ := h
  exact ⟨p, cap, hv, hl, fun j t hj => (hc j t hj).kept hg⟩
end Go.Proofs.YtblpknkgjkbacaaGreatDoor
namespace Go.Proofs.YtblpknkgjkbacaaGreatDoor
open Go.RowKit
theorem bytesLess_irrefl : ∀ x : List UInt8, Op.bytesLess x x = false
  | [] => rfl
  | a :: x => by simp [Op.bytesLess, bytesLess_irrefl x]
theorem bytesLess_trans : ∀ x y z : List UInt8, Op.bytesLess x y = true → Op.bytesLess y z = true → Op.bytesLess x z = true
  | _, [], _, h, _ => by simp [Op.bytesLess] at h
  | _, _ :: _, [], _, h => by simp [Op.bytesLess] at h
  | [], _ :: _, _ :: _, _, _ => rfl
  | a :: x, b :: y, c :: z, h, k => by
    simp only [Op.bytesLess, Bool.or_eq_true, decide_eq_true_eq, Bool.and_eq_true, beq_iff_eq] at h k ⊢
    rcases h with h | ⟨rfl, h⟩
    · rcases k with k | ⟨rfl, k⟩
      · exact .inl (UInt8.lt_trans h k)
      · exact .inl h
    · rcases k with k | ⟨rfl, k⟩
      · exact .inl k
      · exact .inr ⟨rfl, bytesLess_trans x y z h k⟩
theorem bytesLess_total : ∀ x y : List UInt8, Op.bytesLess x y = false → (x == y) = false → Op.bytesLess y x = true
  | [], [], _, h => by simp at h
  | _ :: _, [], _, _ => rfl
  | [], _ :: _, h, _ => by simp [Op.bytesLess] at h
  | a :: x, b :: y, h, k => by
    simp only [Op.bytesLess, Bool.or_eq_false_iff, decide_eq_false_iff_not, Bool.and_eq_false_iff, Bool.or_eq_true, decide_eq_true_eq, Bool.and_eq_true, beq_iff_eq, List.cons_beq_cons, beq_eq_false_iff_ne] at h k ⊢
    obtain ⟨h1, h2⟩ := h
    by_cases hab : a = b
    · subst hab
      refine .inr ⟨rfl, bytesLess_total x y (by rcases h2 with h2 | h2; exact absurd rfl h2; exact h2) ?_⟩
      rcases k with k | k
      · exact absurd rfl k
      · simpa using k
    · refine .inl ?_
      rcases UInt8.lt_or_lt_of_ne hab with h | h
      · exact absurd h h1
      · exact h
theorem bytes_ext {a b : ByteArray} (h : a.toList = b.toList) : a = b := by
  rw [ByteArray.toList_eq, ByteArray.toList_eq] at h
  cases a; cases b
  simp at h
  rw [h]
theorem lt_of_not_leB {a b : ByteArray} (h : leB a b = false) : Op.bytesLess b.toList a.toList = true := by
  simp only [leB, Bool.or_eq_false_iff] at h
  exact bytesLess_total _ _ h.1 h.2
/-- A form's terms without an error: right names, right coefficients, rising. -/
theorem terms_good {l : List (ByteArray × Int)} : ∀ last, termsErr last l = 0 →
    (∀ t ∈ l, nameB t.1 = true ∧ coefBad t.2 = false ∧ Op.bytesLess last.toList t.1.toList = true) ∧ l.Pairwise (fun a b => a.1 ≠ b.1) := by
  induction l with
  | nil => intro last _; exact ⟨fun t ht => (by cases ht), List.Pairwise.nil⟩
  | cons x r ih =>
    intro last h
    simp only [termsErr] at h
    split at h
    · split at h
      · cases h
      · split at h
        · cases h
        · rename_i h1 h2 h3
          obtain ⟨i1, i2⟩ := ih _ h
          have hx := lt_of_not_leB (by simpa using h3 : leB x.1 last = false)
          refine ⟨fun t ht => ?_, List.Pairwise.cons (fun t ht he => ?_) i2⟩
          · rcases List.mem_cons.1 ht with rfl | ht
            · exact ⟨h1, by simpa using h2, hx⟩
            · obtain ⟨j1, j2, j3⟩ := i1 t ht
              exact ⟨j1, j2, bytesLess_trans _ _ _ hx j3⟩
          · have := (i1 t ht).2.2
            rw [he, bytesLess_irrefl] at this
            cases this
    · cases h
theorem form_good {c : Int} {ts : List (ByteArray × Int)} (h : formErr c ts = 0) :
    (-1000000 ≤ c ∧ c ≤ 1000000) ∧ ts.length ≤ 12 ∧ (∀ t ∈ ts, nameB t.1 = true ∧ -1000 ≤ t.2 ∧ t.2 ≤ 1000) ∧ ts.Pairwise (fun a b => a.1 ≠ b.1) := by
  simp only [formErr] at h
  split at h
  · split at h
    · cases h
    · rename_i h1 h2
      obtain ⟨i1, i2⟩ := terms_good _ h
      refine ⟨by simp [inB] at h1; exact h1, by omega, fun t ht => ?_, i2⟩
      obtain ⟨j1, j2, _⟩ := i1 t ht
      refine ⟨j1, ?_⟩
      simp [coefBad, inB] at j2
      exact j2.2
  · cases h
theorem name_ne_empty {s : ByteArray} (h : nameB s = true) : s ≠ ByteArray.empty := by
  intro e
  subst e
  simp [nameB] at h
end Go.Proofs.YtblpknkgjkbacaaGreatDoor
