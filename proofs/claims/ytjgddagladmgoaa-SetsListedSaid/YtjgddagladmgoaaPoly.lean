/-
 polyOf: a form as a table; value: what it gives at a point.
-/
import Derived.Test.YtjgddagladmgoaaMaps
namespace Go.Proofs.Ytjgddagladmgoaa
open Go.RowKit Go.Maps Go.WideMaps

/-- A new map that reads as a form. -/
def PolyMap (c : Int) (ts : List (ByteArray × Int)) (w : World) (e : Ending) (w' : World) : Prop :=
  ∃ (D : Table) (B n : Nat), e = .returned (.map (some B)) ∧ w.heap.size ≤ B ∧ MapAt w' B n D ∧ n ≤ 20 ∧ PolyD D c ts ∧ w.grownBy w' none

theorem lt_maxLen (n : Nat) (h : n ≤ 1000) : n < maxLen := by unfold maxLen; omega

theorem key_str {s : ByteArray} (hs : s.size ≤ maxLen) : keyOf Try.prog 9 (.string s) = some (strL s) := keyOf_string_mk Try.underlying9 hs

theorem wf64 {c : Int} (h1 : -9223372036854775808 ≤ c) (h2 : c ≤ 9223372036854775807) : (Lit.int .i64 c).wf = true := by
  have h := wrap64_wf c
  rwa [show wrap64 c = c by unfold wrap64; omega] at h

set_option maxRecDepth 100000 in
set_option maxHeartbeats 1000000 in
theorem polyOf_any (c : Int) (ts : List (ByteArray × Int)) (tv : Value) (w : World) (ht : TermsAt w tv ts) (hgood : formErr c ts = 0) :
    Calls Try.prog 59 #[.agg #[.int .i64 c, tv]] w (PolyMap c ts w) := by
  obtain ⟨p, cap, rfl, hl, hc⟩ := ht
  obtain ⟨⟨hc1, hc2⟩, h12, hts, hpw⟩ := form_good hgood
  have H := Lib.hid hc
  have HT := Lib.hid hts
  have HP := Lib.hid hpw
  clear hc hts hpw hgood
  have hmm := @run_makeMap Try.prog
  go_enter Try.func59, Try.ntmps59
  go_wp2_with (first | (refine wpList_insert_own _ rfl _ _ _ 96 rfl 9 3 Try.lawStr Try.underlying96 (plainElem (H := Unit) Try.prog 3) (w.heap.size + 1) 0 (.map []) rfl ?_ (lt_maxLen 0 (Nat.zero_le _)) _ _ _ rfl rfl (key_str (Nat.zero_le _)) _ [] (plainElem_int Try.underlying3 ?_) ?_))
  · have h := World.ownsMap_made (H := Unit) (w.alloc (.cells #[.int .i64 c, .slice p ts.length cap] 57)) Try.prog 9 (plainElem Try.prog 3)
    rw [show (w.alloc (.cells #[.int .i64 c, .slice p ts.length cap] 57)).heap.size = w.heap.size + 1 by simp] at h
    exact h
  · exact wf64 (by omega) (by omega)
  intro w1 hown1 hg1
  have HO1 : Hid (MapAt w1 (w.heap.size + 1) 1 _) := hown1
  have HG1 : Hid (w.grownBy w1 none) := grown_own (grownBy_trans (World.grownBy_alloc _ _ _) (World.grownBy_alloc _ _ _)) hg1 (fun i hi => by cases hi; omega)
  have hb1 : w1.cell? ⟨w.heap.size, 1, none⟩ = some (.slice p ts.length cap) := hg1.cell (by simp) (by simp)
  clear hown1 hg1
  go_wp2
  go_loopw [13] (fun i wr => ∃ (k : Nat) (D : Table), k ≤ ts.length ∧ i = .int .i64 k ∧ Hid (MapAt wr (w.heap.size + 1) (k + 1) D) ∧ Hid (PolyD D c (ts.take k)) ∧ Hid (w.grownBy wr none)) (fun i _ => ts.length - (intOf i).toNat)
  case atStart => exact ⟨0, _, Nat.zero_le _, rfl, HO1, polyD_start c, HG1⟩
  case round =>
    obtain ⟨k, D, hk, rfl, HM, HD, HG⟩ := hrel
    by_cases hlt : k < ts.length
    · have h0 := List.getElem?_eq_getElem hlt
      obtain ⟨b, off, rfl, h3, h4, h5, h6, h7⟩ := (H.out k _ h0).kept HG.out
      obtain ⟨g1, g2, g3⟩ := HT.out _ (List.getElem_mem hlt)
      have hne := name_ne_empty g1
      have hfr : ∀ t ∈ ts.take k, t.1 ≠ (ts[k]).1 := by
        intro t ht e
        obtain ⟨j, hj, rfl⟩ := List.getElem_of_mem ht
        simp at hj
        rw [List.getElem_take] at e
        exact (List.pairwise_iff_getElem.1 HP.out) j k (by omega) hlt (by omega) e
      have hfresh := polyD_fresh HD.out hne hfr (lit64 0)
      have HS : Hid (∀ z', z' = (ts[k]).2 → PolyD (D.put (strL (ts[k]).1) (lit64 z')) c (ts.take (k + 1))) := fun z' hz' => by
        have := polyD_step (z := (ts[k]).2) HD.out hne hfr
        rw [hz', List.take_succ_eq_append_getElem hlt]
        exact this
      generalize hn : (ts[k]).1 = n at *
      generalize hz : (ts[k]).2 = z at *
      have HF := Lib.hid hfresh
      have hkey := key_str h3
      clear h0 hn hz hne hfr hfresh g1
      go_wp2_with (first
        | (at_lookup; refine wpList_lookup_own_int _ rfl _ _ 96 rfl 9 3 .i64 Try.lawStr Try.underlying96 Try.underlying3 (Try.zeroInt _) (w.heap.size + 1) (k + 1) D rfl (World.ownsMap.alloc HM.out _) _ _ rfl hkey ?_; intro c' hat hwc; obtain rfl : c' = 0 := (by have := hat.symm.trans HF.out; simpa [lit64] using this); clear hat hwc)
        | (at_mapUpdate; refine wpList_mapUpdate_own _ rfl _ _ _ 96 rfl 9 3 Try.lawStr Try.underlying96 _ (w.heap.size + 1) (k + 1) D rfl (World.ownsMap.alloc HM.out _) (lt_maxLen _ (by omega)) _ _ _ rfl rfl hkey _ [] (plainElem_int Try.underlying3 (wf64 (by omega) (by omega))) ?_; intro w2 hown2 hg2; have HO2 := Lib.hid hown2; have HG2 := Lib.hid hg2; clear hown2 hg2))
      go_roundw
      case rel => exact ⟨k + 1, _, by omega, by go_num, HO2.out, HS.out _ (by omega), grown_own (grownBy_trans HG.out (World.grownBy_alloc _ _ _)) HG2.out (fun i hi => by cases hi; omega)⟩
      case measure => simp [intOf]; omega
    · obtain rfl : k = ts.length := by omega
      go_wp2
      go_ret
      exact ⟨D, _, _, rfl, by omega, HM.out, by omega, by have := HD.out; rwa [List.take_length] at this, HG.out⟩

end Go.Proofs.Ytjgddagladmgoaa
