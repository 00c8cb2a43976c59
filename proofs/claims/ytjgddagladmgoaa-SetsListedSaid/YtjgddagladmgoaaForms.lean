/-
 nest.CheckForm; the errors of a form over some variables.
-/
import Derived.Test.YtjgddagladmgoaaForm
namespace Go.Proofs.Ytjgddagladmgoaa
open Go.RowKit

set_option maxHeartbeats 400000 in
theorem within_any (n m : Int) (w : World) (h0 : 0 ≤ m) (h1 : m ≤ 1000000000) :
    Calls Try.prog 71 #[.int .i64 n, .int .i64 m] w (Ret (.bool (inB n (-m) m)) w) := by
  go_enter Try.func71, Try.ntmps71
  go_wp2
  all_goals
    go_ret
    exact ⟨ret_bool (by simp [inB]; try omega), rfl⟩

/-- Nothing is at most the empty string but itself. -/
theorem leB_empty {n : ByteArray} (h : nameB n = true) : leB n ByteArray.empty = false := by
  have h1 : 1 ≤ n.size := by simp [nameB] at h; omega
  have hn : n.toList ≠ [] := by
    rw [ByteArray.toList_eq]
    intro he
    have : n.data.toList.length = 0 := by rw [he]; rfl
    simp at this
    have h2 : n.size = n.data.size := rfl
    rw [h2, this] at h1
    simp at h1
  cases hl : n.toList with
  | nil => exact absurd hl hn
  | cons a l =>
    have he : ByteArray.empty.toList = [] := by rw [ByteArray.toList_eq]; rfl
    simp [leB, hl, he, Op.bytesLess]

def lastName (ts : List (ByteArray × Int)) (k : Nat) : ByteArray := match (ts.take k).getLast? with | some t => t.1 | none => ByteArray.empty

theorem lastName_succ {ts : List (ByteArray × Int)} {k : Nat} {t : ByteArray × Int} (h : ts[k]? = some t) : lastName ts (k + 1) = t.1 := by
  obtain ⟨hk, rfl⟩ := List.getElem?_eq_some_iff.1 h
  unfold lastName
  rw [List.take_succ_eq_append_getElem hk, List.getLast?_append]
  simp

set_option maxHeartbeats 1000000 in
theorem checkForm_at (c : Int) (ts : List (ByteArray × Int)) (p : Option Addr) (cap : Nat) (w : World) (hl : ts.length ≤ maxLen)
    (hc : ∀ j t, ts[j]? = some t → TermAt w p t j) :
    Calls Try.prog 61 #[.agg #[.int .i64 c, .slice p ts.length cap]] w (Gives (.int .i64 (formErr c ts)) w) := by
  unfold maxLen at hl
  have H := Lib.hid hc
  clear hc
  cases hcc : inB c (-1000000) 1000000
  · go_enter Try.func61, Try.ntmps61
    go_wp2_with (first | (go_at_call 71; refine (within_any _ _ _ (by omega) (by omega)).mono ?_; rintro e w' ⟨rfl, rfl⟩))
    go_ret
    exact ⟨ret_i64 (by simp [formErr, hcc]), World.grownBy_alloc _ _ _⟩
  by_cases hll : 12 < ts.length
  · go_enter Try.func61, Try.ntmps61
    go_wp2_with (first | (go_at_call 71; refine (within_any _ _ _ (by omega) (by omega)).mono ?_; rintro e w' ⟨rfl, rfl⟩))
    go_ret
    exact ⟨ret_i64 (by simp [formErr, hcc, hll]), World.grownBy_alloc _ _ _⟩
  have HF := Lib.hid (show formErr c ts = termsErr ByteArray.empty ts by simp [formErr, hcc, hll])
  go_enter Try.func61, Try.ntmps61
  go_wp2_with (first | (go_at_call 71; refine (within_any _ _ _ (by omega) (by omega)).mono ?_; rintro e w' ⟨rfl, rfl⟩))
  go_loopw [16] (fun i wr => ∃ k : Nat, k ≤ ts.length ∧ i = .int .i64 k ∧ Hid (termsErr (lastName ts k) (ts.drop k) = termsErr ByteArray.empty ts) ∧ Hid ((w.alloc (.cells #[.int .i64 c, .slice p ts.length cap] 57)).grownBy wr none)) (fun i _ => ts.length - (intOf i).toNat)
  case atStart => exact ⟨0, Nat.zero_le _, rfl, rfl, grownBy_refl _ _⟩
  case round =>
    obtain ⟨k, hk, rfl, HR, HG⟩ := hrel
    by_cases hlt : k < ts.length
    · have h0 := List.getElem?_eq_getElem hlt
      have hgw : w.grownBy wr none := grownBy_trans (World.grownBy_alloc _ _ _) HG.out
      obtain ⟨b, off, rfl, h3, h4, h5, h6, h7⟩ := (H.out k _ h0).kept hgw
      have HS := Lib.hid (termsErr_drop (lastName ts k) h0)
      have HL := Lib.hid (lastName_succ h0)
      generalize hn : (ts[k]).1 = n at *
      generalize hz : (ts[k]).2 = z at *
      have G := Lib.hid hgw
      have hbox : wr.cell? ⟨w.heap.size, 1, none⟩ = some (.slice (some ⟨b, off, none⟩) ts.length cap) := HG.out.cell (by simp) (by simp)
      clear hgw h0 hn hz
      by_cases hk0 : k = 0
      · subst hk0
        simp only [Nat.zero_mul, Nat.add_zero] at h6 h7
        have HL0 := Lib.hid (show lastName ts 0 = ByteArray.empty from rfl)
        go_wp2_with (first | (go_at_call 71; refine (within_any _ _ _ (by omega) (by omega)).mono ?_; rintro e w' ⟨rfl, rfl⟩) | (go_at_call 72; refine (isName_any _ _ ‹_›).mono ?_; rintro e w' ⟨rfl, rfl⟩))
        all_goals try go_quiet (fail)
        all_goals try go_wp2
        all_goals first
          | (go_ret
             exact ⟨ret_i64 (by rw [HF.out, ← HR.out, HS.out]; clear HF HR HS H G HG HL; simp_all [coefBad]), grownBy_trans G.out (World.grownBy_alloc _ _ _)⟩)
          | (have hN : nameB n = true := by clear HF HR HS H G HG HL; simp_all
             have hE := Lib.hid (leB_empty hN)
             go_roundw
             case rel => exact ⟨1, by omega, by go_num, by show _ = _; rw [HL.out, ← HR.out, HS.out, HL0.out, hE.out]; clear HF HR HS H G HG HL; simp_all [coefBad], grownBy_trans HG.out (grownBy_trans (World.grownBy_alloc _ _ _) (grownBy_drewN _ _ _))⟩
             case measure => simp [intOf]; omega)
      · obtain ⟨m, rfl⟩ := Nat.exists_eq_succ_of_ne_zero hk0
        have hm0 : m < ts.length := by omega
        obtain ⟨b', off', hbb, _, _, _, h6', _⟩ := (H.out m _ (List.getElem?_eq_getElem hm0)).kept G.out
        have HL' := Lib.hid (lastName_succ (List.getElem?_eq_getElem hm0))
        generalize hn' : (ts[m]).1 = n' at *
        simp only [Option.some.injEq, Addr.mk.injEq] at hbb
        obtain ⟨rfl, rfl, _⟩ := hbb
        have a1 : (wr.alloc (.cells #[.string n, .int .i64 z] 59)).cell? ⟨w.heap.size, 1, none⟩ = some (.slice (some ⟨b, off, none⟩) ts.length cap) := (World.grownBy_alloc _ _ none).cell hbox (by simp)
        have a2 : (wr.alloc (.cells #[.string n, .int .i64 z] 59)).cell? ⟨b, off + m * 2, none⟩ = some (.string n') := (World.grownBy_alloc _ _ none).cell h6' (by simp)
        clear hn' hbox h6'
        go_wp2_with (first | (go_at_call 71; refine (within_any _ _ _ (by omega) (by omega)).mono ?_; rintro e w' ⟨rfl, rfl⟩) | (go_at_call 72; refine (isName_any _ _ ‹_›).mono ?_; rintro e w' ⟨rfl, rfl⟩))
        all_goals try go_quiet (fail)
        all_goals try go_wp2
        all_goals first
          | (go_ret
             exact ⟨ret_i64 (by rw [HF.out, ← HR.out, HS.out, HL'.out]; clear HF HR HS H G HG HL HL'; simp_all [coefBad, leB]), grownBy_trans G.out (grownBy_trans (World.grownBy_alloc _ _ _) (grownBy_drewN _ _ _))⟩)
          | (go_ret
             exact ⟨ret_i64 (by rw [HF.out, ← HR.out, HS.out, HL'.out]; clear HF HR HS H G HG HL HL'; simp_all [coefBad]), grownBy_trans G.out (World.grownBy_alloc _ _ _)⟩)
          | (go_roundw
             case rel => exact ⟨m + 1 + 1, by omega, by go_num, by show _ = _; rw [HL.out, ← HR.out, HS.out, HL'.out]; clear HF HR HS H G HG HL HL'; simp_all [coefBad, leB], grownBy_trans HG.out (grownBy_trans (World.grownBy_alloc _ _ _) (grownBy_drewN _ _ _))⟩
             case measure => simp [intOf]; omega)
    · obtain rfl : k = ts.length := by omega
      go_wp2
      go_ret
      exact ⟨ret_i64 (by rw [HF.out, ← HR.out]; simp [termsErr]), grownBy_trans (World.grownBy_alloc _ _ _) HG.out⟩

end Go.Proofs.Ytjgddagladmgoaa
