/-
 CheckSet of package affine.
-/
import Derived.Test.YtfilcaolgfghcaaGreatSides
import Derived.Test.YtfilcaolgfghcaaGreatSet
import Derived.Test.YtfilcaolgfghcaaGreatGo3
namespace Go.Proofs.YtfilcaolgfghcaaGreat
open Go.RowKit

theorem Tryz.infoForm1 : (Tryz.prog.info? 33).map (·.size) = some 2 := by kernel_rfl

/-- A variable as a form. -/
def VarForm (x : ByteArray) (w : World) (e : Ending) (w' : World) : Prop :=
  ∃ p cap, e = .returned (.agg #[.int .i64 0, .slice p 1 cap]) ∧ TermsAt w' (.slice p 1 cap) [(x, 1)] ∧ w.grownBy w' none

theorem terms_one {w : World} {b cap : Nat} {x : ByteArray} {z : Int} (hx : x.size ≤ maxLen) (hz : -9223372036854775808 ≤ z ∧ z ≤ 9223372036854775807)
    (h0 : w.cell? ⟨b, 0, none⟩ = some (.string x)) (h1 : w.cell? ⟨b, 1, none⟩ = some (.int .i64 z)) : TermsAt w (.slice (some ⟨b, 0, none⟩) 1 cap) [(x, z)] := by
  refine ⟨_, cap, rfl, by simp [maxLen], fun j t hj => ?_⟩
  cases j with
  | zero =>
    simp at hj
    subst hj
    exact ⟨b, 0, rfl, hx, hz.1, hz.2, by simpa using h0, by simpa using h1⟩
  | succ j => simp at hj

def varWorld (x : ByteArray) (w : World) : World :=
  ((w.alloc (.cells #[.int .i64 0, .slice (some ⟨w.heap.size + 1, 0, none⟩) 1 1] 33)).alloc (.cells #[.string x, .int .i64 1] 66))

set_option maxHeartbeats 1000000 in
theorem variable_any (x : ByteArray) (w : World) (hx : x.size ≤ maxLen) :
    Calls Tryz.prog 46 #[.string x] w (VarForm x w) := by
  go_enter Tryz.func46, Tryz.ntmps46
  go_wp2
  have hg : w.grownBy (varWorld x w) none := grownBy_trans (World.grownBy_alloc _ _ _) (World.grownBy_alloc _ _ _)
  have h1 : (varWorld x w).heap[w.heap.size]? = some (.cells #[.int .i64 0, .slice (some ⟨w.heap.size + 1, 0, none⟩) 1 1] 33 (0, 0)) := by
    show ((w.heap.push _).push _)[w.heap.size]? = _
    simp only [Array.getElem?_push, Array.size_push]
    rw [if_neg (by simp), if_pos trivial]
  have h2 : (varWorld x w).heap[w.heap.size + 1]? = some (.cells #[.string x, .int .i64 1] 66 (0, 0)) := by
    show ((w.heap.push _).push _)[w.heap.size + 1]? = _
    simp only [Array.getElem?_push, Array.size_push]
    rw [if_pos trivial]
  change bodyPost _ _ _ _ _ (varWorld x w)
  exact bodyPost_ret (results_cell_row rfl _ _ w.heap.size _ _ _ _ rfl h1 Tryz.underlying33 rfl Tryz.infoForm1) rfl
    ⟨some ⟨w.heap.size + 1, 0, none⟩, 1, rfl, terms_one hx ⟨by omega, by omega⟩ (by simp [World.cell?, h2]) (by simp [World.cell?, h2]), hg⟩

theorem checkForm_any (c : Int) (ts : List (ByteArray × Int)) (tv : Value) (w : World) (ht : TermsAt w tv ts) :
    Calls Tryz.prog 76 #[.agg #[.int .i64 c, tv]] w (Gives (.int .i64 (formErr c ts)) w) := by
  obtain ⟨p, cap, rfl, hl, hc⟩ := ht
  exact checkForm_at c ts p cap w hl hc

theorem varErr (x : ByteArray) : (formErr 0 [(x, 1)] == 0) = nameB x := by
  cases h : nameB x
  · simp [formErr, inB, termsErr, h]
  · simp [formErr, inB, termsErr, h, coefBad, leB_empty h]

set_option maxHeartbeats 1000000 in
theorem affName_any (x : ByteArray) (w : World) (hx : x.size ≤ maxLen) :
    Calls Tryz.prog 97 #[.string x] w (Gives (.bool (nameB x)) w) := by
  have HE := Lib.hid (varErr x)
  go_enter Tryz.func97, Tryz.ntmps97
  go_wp2_with (first
    | (go_at_call 46; refine (variable_any x w hx).mono ?_; rintro e w1 ⟨p, cap, rfl, ht, hg⟩; have HT := Lib.hid ht; have HG := Lib.hid hg; clear ht hg)
    | (go_at_call 76; refine (checkForm_any 0 [(x, 1)] (.slice p 1 cap) w1 HT.out).mono ?_; rintro e w2 ⟨rfl, hg⟩; have HG2 := Lib.hid hg; clear hg))
  go_ret
  exact ⟨ret_bool HE.out, grownBy_trans HG.out HG2.out⟩

set_option maxHeartbeats 1000000 in
theorem affForm_any (c : Int) (ts : List (ByteArray × Int)) (l : List SideD) (tv sv : Value) (w : World) (ht : TermsAt w tv ts) (hs : SidesAt w sv l) :
    Calls Tryz.prog 41 #[.agg #[.int .i64 c, tv], sv] w (Gives (.int .i64 (aroundErr (namesOf l) (c, ts))) w) := by
  obtain ⟨p, cap, rfl, hl, hc⟩ := ht
  have H := Lib.hid hc
  have HN := Lib.hid hs
  have hl' := hl
  unfold maxLen at hl'
  have HT : Hid (TermsAt w (.slice p ts.length cap) ts) := ⟨p, cap, rfl, hl, hc⟩
  clear hc hs
  cases hf : (formErr c ts == 0)
  · have hf' : (formErr c ts == 0) = false := hf
    have hf2 : (formErr c ts != 0) = true := by simp [bne, hf]
    go_enter Tryz.func41, Tryz.ntmps41
    go_wp2_with (first | (go_at_call 76; refine (checkForm_any c ts (.slice p ts.length cap) _ (HT.out.kept (World.grownBy_alloc _ _ _))).mono ?_; rintro e w' ⟨rfl, hg1⟩; have G1 := Lib.hid hg1; clear hg1))
    go_ret
    exact ⟨ret_i64 (by simp only [aroundErr, hf']; rfl), grownBy_trans (World.grownBy_alloc _ _ _) G1.out⟩
  · have hf' := Lib.hid hf
    have hf2 : (formErr c ts != 0) = false := by simp [bne, hf]
    clear hf
    go_enter Tryz.func41, Tryz.ntmps41
    go_wp2_with (first | (go_at_call 76; refine (checkForm_any c ts (.slice p ts.length cap) _ (HT.out.kept (World.grownBy_alloc _ _ _))).mono ?_; rintro e w' ⟨rfl, hg1⟩; have q1 : w'.cell? ⟨w.heap.size, 1, none⟩ = some (.slice p ts.length cap) := hg1.cell (by simp) (by simp); have G1 := Lib.hid hg1; clear hg1))
    have HW : Hid (w.grownBy w' none) := grownBy_trans (World.grownBy_alloc _ _ _) G1.out
    have HA := Lib.hid (show aroundErr (namesOf l) (c, ts) = if termsIn (namesOf l) ts then 0 else 16 by simp only [aroundErr, hf'.out]; rfl)
    clear G1 q1 hf2 hf'
    go_loopw [16] (fun i wr => ∃ k : Nat, k ≤ ts.length ∧ i = .int .i64 k ∧ Hid (termsIn (namesOf l) (ts.take k) = true) ∧ Hid (w.grownBy wr none)) (fun i _ => ts.length - (intOf i).toNat)
    case atStart => exact ⟨0, Nat.zero_le _, rfl, rfl, HW⟩
    case round =>
      obtain ⟨k, hk, rfl, HR, HG⟩ := hrel
      by_cases hlt : k < ts.length
      · have h0 := List.getElem?_eq_getElem hlt
        obtain ⟨b, off, rfl, h3, h4, h5, h6, h7⟩ := (H.out k _ h0).kept HG.out
        have HS := Lib.hid (termsIn_snoc (names := namesOf l) h0)
        have HT' := fun h => termsIn_stop (names := namesOf l) h0 h
        have HF := Lib.hid (firstI_none (sameName (ts[k]).1) l)
        have HSN := Lib.hid (sameName_any (ts[k]).1 l)
        generalize hn : (ts[k]).1 = n at *
        generalize hz : (ts[k]).2 = z at *
        have HT' := Lib.hid HT'
        clear h0 hn hz
        go_wp2_with (first | (go_at_call 77; refine (placeOf_any n sv l _ (HN.out.kept (grownBy_trans HG.out (World.grownBy_alloc _ _ _)))).mono ?_; rintro e w'' ⟨rfl, hg2⟩; have G2 := Lib.hid hg2; clear hg2))
        · have he : containsB (namesOf l) n = false := by
            have h := HF.out
            rw [HSN.out, show (firstI (sameName n) l == -1) = true by assumption] at h
            simpa using h.symm
          go_ret
          exact ⟨ret_i64 (by rw [HA.out, HT'.out he]; rfl), grownBy_trans HG.out (grownBy_trans (World.grownBy_alloc _ _ _) G2.out)⟩
        · have he : containsB (namesOf l) n = true := by
            have h := HF.out
            rw [HSN.out, show (firstI (sameName n) l == -1) = false by assumption] at h
            simpa using h.symm
          go_roundw
          case rel => exact ⟨k + 1, by omega, by go_num, by show _ = _; rw [HS.out, HR.out, he]; rfl, grownBy_trans HG.out (grownBy_trans (World.grownBy_alloc _ _ _) G2.out)⟩
          case measure => simp [intOf]; omega
      · obtain rfl : k = ts.length := by omega
        go_wp2
        go_ret
        exact ⟨ret_i64 (by rw [HA.out, ← List.take_length (l := ts), HR.out]; rfl), HG.out⟩

set_option maxHeartbeats 1000000 in
theorem isLarge_any (l : List SideD) (sv : Value) (w : World) (hs : SidesAt w sv l) (hgood : ∀ s ∈ l, sideBad s.2.1 s.2.2 = false) :
    Calls Tryz.prog 99 #[sv] w (Gives (.bool (!emptyB l && boxOver 1 l)) w) := by
  obtain ⟨p, cap, rfl, ⟨hl, hlc⟩, hc⟩ := hs
  have H := Lib.hid hc
  have HG0 := Lib.hid hgood
  have HSd : Hid (SidesAt w (.slice p l.length cap) l) := ⟨p, cap, rfl, ⟨hl, hlc⟩, hc⟩
  clear hc hgood
  cases he : emptyB l
  · have HNE := Lib.hid he
    clear he
    go_enter Tryz.func99, Tryz.ntmps99
    go_wp2_with (go_at_call 71; refine (isEmpty_any _ l _ HSd.out).mono ?_; rintro e w1 ⟨rfl, hg1⟩; rw [HNE.out]; have G1 := Lib.hid hg1; clear hg1)
    go_loopw [3, 10] (fun q i wr => ∃ (k : Nat) (z : Int), k ≤ l.length ∧ i = .int .i64 k ∧ q = .int .i64 z ∧ 0 ≤ z ∧ z ≤ 200000 ∧ Hid (boxOver z (l.drop k) = boxOver 1 l) ∧ Hid (w.grownBy wr none)) (fun _ i _ => l.length - (intOf i).toNat)
    case atStart => exact ⟨0, 1, Nat.zero_le _, rfl, rfl, by omega, by omega, rfl, G1.out⟩
    case round =>
      obtain ⟨k, q, hk, rfl, rfl, hq0, hq1, HR, HGC⟩ := hrel
      by_cases hlt : k < l.length
      · have h0 := List.getElem?_eq_getElem hlt
        obtain ⟨b, off, rfl, h3, ⟨h4, h4'⟩, ⟨h5, h5'⟩, h6, h7, h8⟩ := (H.out k _ h0).kept HGC.out
        have HS := Lib.hid (boxOver_drop q h0)
        obtain ⟨r1, r2, r3, r4⟩ := side_range (HG0.out _ (List.getElem_mem hlt))
        have r5 := not_empty HNE.out (List.getElem_mem hlt)
        generalize hn : (l[k]).1 = n at *
        generalize hlo : (l[k]).2.1 = lo at *
        generalize hhi : (l[k]).2.2 = hi' at *
        clear h0 hn hlo hhi
        have m1 : 0 ≤ q * (hi' - lo + 1) := Int.mul_nonneg hq0 (by omega)
        have m2 : q * (hi' - lo + 1) ≤ 200000 * 2000001 := Int.mul_le_mul hq1 (by omega) (by omega) (by omega)
        go_wp2
        · have he : 200000 < q * (hi' - lo + 1) := by assumption
          go_ret
          exact ⟨ret_bool (by rw [← HR.out, HS.out, if_pos he]; rfl), grownBy_trans HGC.out (World.grownBy_alloc _ _ _)⟩
        · have he : ¬ 200000 < q * (hi' - lo + 1) := by omega
          have he' : q * (hi' - lo + 1) ≤ 200000 := by omega
          go_roundw
          case rel => exact ⟨k + 1, _, by omega, by go_num, rfl, m1, he', by show _ = _; rw [← HR.out, HS.out, if_neg he], grownBy_trans HGC.out (World.grownBy_alloc _ _ _)⟩
          case measure => simp [intOf]; omega
      · obtain rfl : k = l.length := by omega
        go_wp2
        go_ret
        exact ⟨ret_bool (by rw [← HR.out]; simp [boxOver]), HGC.out⟩
  · have HNE := Lib.hid he
    clear he
    go_enter Tryz.func99, Tryz.ntmps99
    go_wp2_with (go_at_call 71; refine (isEmpty_any _ l _ HSd.out).mono ?_; rintro e w1 ⟨rfl, hg1⟩; rw [HNE.out]; have G1 := Lib.hid hg1; clear hg1)
    go_ret
    exact ⟨rfl, G1.out⟩

end Go.Proofs.YtfilcaolgfghcaaGreat
