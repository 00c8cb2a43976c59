/-
 A form that is added up, as a form.
-/
import Derived.Test.YtblpknkgjkbacaaGreatDoorQ11
import Derived.Test.YtblpknkgjkbacaaGreatDoorQ12
namespace Go.Proofs.YtblpknkgjkbacaaGreatDoor
set_option linter.unusedVariables false
open Go.RowKit Go.Maps Go.WideMaps Go.Sort Go.Shelf
attribute [local go_sem ↓] Go.wp_at_zero Go.wp_at_succ
theorem tot_look {D : Table} {X : ByteArray → Int} {B k : Nat} {w : World} (hM : MapAt w B k D) (hT : TabIs D X) {n : ByteArray} (hs : n.size ≤ maxLen) :
    (Instr.lookup 73 (.map (some B)) (.string n) false).run Tryz.prog w = .ok (.int .i64 (X n)) w := by
  obtain ⟨c, hr, ha, _⟩ := World.ownsMap.lookup_int (q := .i64) hM Tryz.lawStr Tryz.underlying73 Tryz.underlying3 (Tryz.zeroInt w) (key_str hs)
  have : c = X n := lit64_inj (ha.symm.trans (hT.at_ n))
  rw [← this]
  exact hr
def iterT (W : World) : Value := .func (.func 95) #[] #[.pointer (some ⟨W.heap.size, 0, none⟩)]
theorem keysMap_any (b : Nat) (W : World) : Calls Tryz.prog 67 #[.map (some b)] W (fun e w' => e = .returned (iterT W) ∧ w' = W.alloc (.cells #[.map (some b)] 73)) :=
  callsIn_wide.1 (AnyZ.keys_in Tryz.keysMap Fence.wide 5 trivial rfl (some b) W)
set_option maxHeartbeats 1000000 in
/-- The keys, in a row of their own. -/
theorem sortedMap_any (b k : Nat) (D : Table) (w : World) (hM : MapAt w b k D) (hk : k ≤ 900) :
    Calls Tryz.prog 58 #[iterT w] (w.alloc (.cells #[.map (some b)] 73)) (fun e w' => ∃ q cap ns, e = .returned (.slice q ns.length cap) ∧ KeysUp D ns ∧ w'.ownsRow (w.heap.size + 1) 9 1 (.slice q ns.length cap) ns.length (ns.map Value.string) ∧ (w.alloc (.cells #[.map (some b)] 73)).grownBy w' none) := by
  have hlt := World.ownsMap.lt hM
  have hsz := World.ownsMap.size_le hM
  have hseq : SeqGives Fence.wide 2 Tryz.prog 95 #[.pointer (some ⟨w.heap.size, 0, none⟩)] encStr (fun ss => ss.Perm (strKeys D)) (Maps.size D) (w.alloc (.cells #[.map (some b)] 73)) :=
    AnyZ.keys_gives (ρ := Tryz.keysMap_ren) { Tryz.keysMap with } Fence.wide _ trivial rfl (by omega) w.heap.size b k D _ (by simp) (by simp) (by
      obtain ⟨es, clock, hb, hF, hs, hD⟩ := hM
      exact ⟨es, clock, (Below.heap_alloc _ _ b hlt).trans hb, hF, hs, hD⟩)
  have h := AnyZ.sorted_in Tryz.sortedStr Fence.wide 5 trivial trivial trivial trivial rfl (by omega) (sortsStr _) (enters_of Tryz.func73 (by kernel_rfl) rfl) 95 #[.pointer (some ⟨w.heap.size, 0, none⟩)] trivial (enters_of Tryz.func95 (by kernel_rfl) rfl) _ _ (by unfold maxLen; omega) (by omega) _ hseq
  refine (callsIn_wide.1 h).mono ?_
  rintro e w' ⟨v, ss, rfl, hS, hrow, hnil, hb⟩
  obtain ⟨h1, h2⟩ := keys_up hM hk hS
  have hrow' : w'.ownsRow (w.heap.size + 1) 9 1 v ((ss.mergeSort leL).map keyN).length (((ss.mergeSort leL).map keyN).map Value.string) := by
    rw [h2, List.map_map]
    have h3 := hrow
    simp only [World.size_alloc] at h3
    exact h3
  obtain ⟨q, cap, rfl⟩ := own_form hrow'
  exact ⟨q, cap, _, rfl, h1, hrow', hb.os, hb.tape, hb.output, hb.size, fun k hk _ => hb.block k hk⟩
/-- A form while it is added up: its number, its table. -/
def TotAt (w : World) (T : Nat) (c : Int) (Bm : Nat) : Prop := w.heap[T]? = some (.cells #[.int .i64 c, .map (some Bm)] 75 (0, 0))
/-- What was added up, as a form. -/
def TotFormed (c : Int) (X : ByteArray → Int) (w : World) (e : Ending) (w' : World) : Prop :=
  ∃ us p cap, e = .returned (.agg #[.int .i64 c, .slice p us.length cap]) ∧ FormX X c (c, us) ∧ TermRow w' w.heap.size (.slice p us.length cap) us ∧ us.length ≤ 900 ∧ w.grownBy w' none
theorem termX_zero {X : ByteArray → Int} (h : X ByteArray.empty = 0) (n : ByteArray) : termX X n = if X n = 0 then none else some (n, X n) := by
  unfold termX
  by_cases e : n = ByteArray.empty
  · rw [if_pos e, if_pos (by rw [e]; exact h)]
  · rw [if_neg e]
set_option maxRecDepth 100000 in
set_option maxHeartbeats 4000000 in
theorem totForm_any (c : Int) (X : ByteArray → Int) (D : Table) (Bm k0 T : Nat) (w : World) (hB : TotAt w T c Bm) (hM : MapAt w Bm k0 D) (hT : TabIs D X) (hk0 : k0 ≤ 900) (hX0 : X ByteArray.empty = 0) :
    Calls Tryz.prog 53 #[.pointer (some ⟨T, 0, none⟩)] w (TotFormed c X w) := by
  have hBm := World.ownsMap.lt hM
  have HM := Lib.hid hM
  have HT := Lib.hid hT
  obtain ⟨j0, hj0, hy0, hy1, hy2⟩ := info_parts Tryz.infoTerm
  have HS := Lib.hid (TfSt.start w c)
  have HB := Lib.hid hB
  have hTl : T < w.heap.size := (Array.getElem?_eq_some_iff.1 hB).1
  obtain ⟨t0, t1, tf⟩ := cell_of_two hB
  have HZ := Lib.hid hX0
  clear hM hT hB hX0
  go_enter Tryz.func53, Tryz.ntmps53
  go_upto_region 2 with fail
  generalize (w.alloc (.cells #[.int .i64 0, .slice none 0 0] 28)).alloc (.cells #[.int .i64 c, .slice none 0 0] 28) = W1 at *
  have hW1 : w.heap.size + 2 ≤ W1.heap.size := (Array.getElem?_eq_some_iff.1 HS.out.box).1
  have HM1 : Hid (MapAt W1 Bm k0 D) := World.ownsMap.kept HM.out HS.out.grown (by simp)
  have HB1 := Lib.hid (heap_keep HB.out HS.out.grown (by simp))
  clear t0 t1 tf
  obtain ⟨t0, t1, tf⟩ := cell_of_two HB1.out
  go_wp2_with (first
    | (go_at_call 67; go_must (refine (keysMap_any Bm _).mono ?_; rintro e w' ⟨rfl, rfl⟩))
    | (go_at_call 58; go_must (refine (sortedMap_any Bm k0 D _ HM1.out hk0).mono ?_; rintro e w2 ⟨q, qcap, ns, rfl, hku, hrow, hg2⟩; have hnl := hku.len; have HKu := Lib.hid hku; have HRow := Lib.hid hrow; have HG2 := Lib.hid (grownBy_trans (World.grownBy_alloc _ _ _) hg2); clear hku hrow hg2)))
  have HB2 := Lib.hid (heap_keep HB1.out HG2.out (by simp))
  clear t0 t1 tf
  have HM2 : Hid (MapAt w2 Bm k0 D) := World.ownsMap.kept HM1.out HG2.out (by simp)
  have hsz2 : w.heap.size + 2 ≤ w2.heap.size := Nat.le_trans hW1 HG2.out.size
  have HS2 := Lib.hid (HS.out.again HG2.out (P' := w2.heap.size) hsz2)
  go_loopw [18] (fun i wr => ∃ (k : Nat) (v : Value) (us : List TermD), k ≤ ns.length ∧ i = .int .i64 k ∧ Hid (us = (ns.take k).filterMap (termX X)) ∧ us.length ≤ k ∧ Hid (TfSt w wr w2.heap.size c v us) ∧ Hid (w2.grownBy wr (some (w.heap.size + 1)))) (fun i _ => ns.length - (intOf i).toNat)
  case atStart => exact ⟨0, _, [], Nat.zero_le _, rfl, by show _ = _; simp, Nat.zero_le _, HS2.out, grownBy_refl _ _⟩
  case round =>
    obtain ⟨k, v, us, hk, rfl, HU, hul, HF, HG⟩ := hrel
    by_cases hlt : k < ns.length
    · have h0 := List.getElem?_eq_getElem hlt
      obtain ⟨g, cap', hv, hgl, hcell⟩ := own_cell (j := k) HRow.out (by rw [List.getElem?_map, h0]; rfl)
      obtain ⟨rfl, _, _⟩ := Value.slice.inj hv
      have hcell := HG.out.cell hcell (by simp; omega)
      have hsz := HKu.out.size _ (List.getElem_mem hlt)
      have HTk := Lib.hid (List.take_succ_eq_append_getElem hlt)
      generalize ns[k] = n at *
      have hlook := tot_look (World.ownsMap.kept HM2.out HG.out (by simp; omega)) HT.out hsz
      have hI1 : (k : Int) < (ns.length : Int) := by omega
      clear h0 hv
      have hnT : T ≠ w.heap.size + 1 := by omega
      obtain ⟨t0, t1, tf⟩ := cell_of_two (heap_keep HB2.out HG.out (by simp; omega))
      by_cases hz : X n = 0
      · have HX : Hid (termX X n = none) := by show _ = _; rw [termX_zero HZ.out, if_pos hz]
        rw [hz] at hlook
        clear hz
        go_wp2
        go_roundw
        case rel => exact ⟨k + 1, v, us, by omega, by go_num, by show _ = _; rw [HTk.out, List.filterMap_append, List.filterMap_cons, HX.out, List.filterMap_nil, List.append_nil, HU.out], by omega, HF.out, HG.out⟩
        case measure => simp [intOf]; omega
      · have HX : Hid (termX X n = some (n, X n)) := by show _ = _; rw [termX_zero HZ.out, if_neg hz]
        have hz0 : (X n != 0) = true := by simpa using hz
        have hMr : MapAt wr Bm k0 D := World.ownsMap.kept HM2.out HG.out (by simp; omega)
        have HLk : Hid (∀ (W : World) (r : Option Nat), wr.grownBy W r → r ≠ some Bm → (Instr.lookup 73 (.map (some Bm)) (.string n) false).run Tryz.prog W = .ok (.int .i64 (X n)) W) := fun W r hg hr => tot_look (World.ownsMap.kept hMr hg hr.symm) HT.out hsz
        have HMr := Lib.hid hMr
        clear hMr
        generalize hXz : X n = z at *
        clear hz
        obtain ⟨c1, c2, _⟩ := cell_of_two HF.out.box
        have hs2 := HF.out.grown.size
        have hb1 : w.heap.size + 1 < wr.heap.size := (Array.getElem?_eq_some_iff.1 HF.out.box).1
        obtain ⟨pv, vcap, rfl⟩ := own_form HF.out.row
        have HRw := Lib.hid HF.out.row
        have d1 : wr.drew.cell? ⟨w.heap.size + 1, 1, none⟩ = some (.slice pv us.length vcap) := c2
        have d2 : (wr.drew.alloc (.cells #[.string n, .int .i64 z] 54)).cell? ⟨w.heap.size + 1, 1, none⟩ = some (.slice pv us.length vcap) := (World.grownBy_alloc _ _ none).cell c2 (by simp)
        have hTr : T < wr.heap.size := Nat.lt_of_lt_of_le hTl hs2
        go_upto_region 6 with fail
        have HS0 : Hid ((fun W : World => W.cell? ⟨T, 1, none⟩ = some (.map (some Bm)) ∧ (Instr.lookup 73 (.map (some Bm)) (.string n) false).run Tryz.prog W = .ok (.int .i64 z) W ∧ W.cell? ⟨w.heap.size + 1, 1, none⟩ = some (.slice pv us.length vcap)) wr.drew) := ⟨(grown_drew _ none).cell t1 (by simp), HLk.out _ none (grown_drew _ none) (by simp), d1⟩
        refine region_late (n := 12) (S := (fun W : World => W.cell? ⟨T, 1, none⟩ = some (.map (some Bm)) ∧ (Instr.lookup 73 (.map (some Bm)) (.string n) false).run Tryz.prog W = .ok (.int .i64 z) W ∧ W.cell? ⟨w.heap.size + 1, 1, none⟩ = some (.slice pv us.length vcap))) (by kernel_rfl) ⟨by kernel_rfl, by kernel_rfl, by kernel_rfl, by decide⟩ ?_
        refine late_take (i := 0) (v := ?va_0) ⟨by kernel_rfl, by kernel_rfl, by kernel_rfl, by decide⟩ rfl (by decide +kernel) (by decide +kernel) (by decide +kernel) (fun _ _ _ h => h) (Or.inl ⟨by rfl, ?ha_0⟩) HS0.out ?ra_0
        case ha_0 =>
          intro W hW
          obtain ⟨s1, s2, s3⟩ := hW
          go_simp
          with_reducible rfl
        go_frame
        refine late_take (i := 1) (v := ?va_1) ⟨by kernel_rfl, by kernel_rfl, by kernel_rfl, by decide⟩ rfl (by decide +kernel) (by decide +kernel) (by decide +kernel) (fun _ _ _ h => h) (Or.inl ⟨by rfl, ?ha_1⟩) HS0.out ?ra_1
        case ha_1 =>
          intro W hW
          obtain ⟨s1, s2, s3⟩ := hW
          go_simp
          with_reducible rfl
        go_frame
        refine late_take (i := 2) (v := ?va_2) ⟨by kernel_rfl, by kernel_rfl, by kernel_rfl, by decide⟩ rfl (by decide +kernel) (by decide +kernel) (by decide +kernel) (fun _ _ _ h => h) (Or.inl ⟨by rfl, ?ha_2⟩) HS0.out ?ra_2
        case ha_2 =>
          intro W hW
          obtain ⟨s1, s2, s3⟩ := hW
          go_simp
          with_reducible rfl
        go_frame
        refine late_take (i := 3) (v := ?va_3) ⟨by kernel_rfl, by kernel_rfl, by kernel_rfl, by decide⟩ rfl (by decide +kernel) (by decide +kernel) (by decide +kernel) (fun _ _ _ h => h) (Or.inl ⟨by rfl, ?ha_3⟩) HS0.out ?ra_3
        case ha_3 =>
          intro W hW
          obtain ⟨s1, s2, s3⟩ := hW
          go_simp
          with_reducible rfl
        go_frame
        refine late_take (i := 4) (v := ?va_4) ⟨by kernel_rfl, by kernel_rfl, by kernel_rfl, by decide⟩ rfl (by decide +kernel) (by decide +kernel) (by decide +kernel) (fun _ _ _ h => h) (Or.inl ⟨by rfl, ?ha_4⟩) HS0.out ?ra_4
        case ha_4 =>
          intro W hW
          obtain ⟨s1, s2, s3⟩ := hW
          go_simp
          with_reducible rfl
        go_frame
        refine late_take (i := 5) (v := ?va_5) ⟨by kernel_rfl, by kernel_rfl, by kernel_rfl, by decide⟩ rfl (by decide +kernel) (by decide +kernel) (by decide +kernel) (fun _ _ _ h => h) (Or.inl ⟨by rfl, ?ha_5⟩) HS0.out ?ra_5
        case ha_5 =>
          intro W hW
          obtain ⟨s1, s2, s3⟩ := hW
          go_simp
          with_reducible rfl
        go_frame
        refine late_take (i := 6) (v := ?va_6) ⟨by kernel_rfl, by kernel_rfl, by kernel_rfl, by decide⟩ rfl (by decide +kernel) (by decide +kernel) (by decide +kernel) (fun _ _ _ h => h) (Or.inl ⟨by rfl, ?ha_6⟩) HS0.out ?ra_6
        case ha_6 =>
          intro W hW
          obtain ⟨s1, s2, s3⟩ := hW
          go_simp
          with_reducible rfl
        go_frame
        refine late_take (i := 7) (v := ?va_7) ⟨by kernel_rfl, by kernel_rfl, by kernel_rfl, by decide⟩ rfl (by decide +kernel) (by decide +kernel) (by decide +kernel) (fun _ _ _ h => h) (Or.inl ⟨by rfl, ?ha_7⟩) HS0.out ?ra_7
        case ha_7 =>
          intro W hW
          obtain ⟨s1, s2, s3⟩ := hW
          go_simp
          with_reducible rfl
        go_frame
        refine late_take (i := 8) (v := ?va_8) ⟨by kernel_rfl, by kernel_rfl, by kernel_rfl, by decide⟩ rfl (by decide +kernel) (by decide +kernel) (by decide +kernel) (fun _ _ _ h => h) (Or.inl ⟨by rfl, ?ha_8⟩) HS0.out ?ra_8
        case ha_8 =>
          intro W hW
          obtain ⟨s1, s2, s3⟩ := hW
          go_simp
          with_reducible rfl
        go_frame
        refine late_take (i := 9) (v := ?va_9) ⟨by kernel_rfl, by kernel_rfl, by kernel_rfl, by decide⟩ rfl (by decide +kernel) (by decide +kernel) (by decide +kernel) (fun _ _ _ h => h) (Or.inl ⟨by rfl, ?ha_9⟩) HS0.out ?ra_9
        case ha_9 =>
          intro W hW
          obtain ⟨s1, s2, s3⟩ := hW
          go_simp
          with_reducible rfl
        go_frame
        refine late_one (i := 10) rfl (by kernel_rfl) (by kernel_rfl) (fun K hK => ?_)
        have HK := Lib.hid hK
        clear hK
        go_simp
        refine HK.out _ _ ⟨(World.grownBy_alloc _ _ none).cell HS0.out.1 (by simp), HLk.out _ none (grownBy_trans (grown_drew _ none) (World.grownBy_alloc _ _ _)) (by simp), (World.grownBy_alloc _ _ none).cell HS0.out.2.2 (by simp)⟩ ?_
        clear HK
        refine late_one (i := 11) rfl (by kernel_rfl) (by kernel_rfl) (fun K hK => ?_)
        have HK := Lib.hid hK
        clear hK
        refine step_append_lies _ (by rfl) _ _ 26 (by rfl) w2.heap.size 54 j0 (.agg #[.string ByteArray.empty, .int .i64 0]) 2 24 Tryz.underlying26 hj0 hy0 hy1 hy2 (by rfl) (by decide) _ us.length (us.flatMap termCells) (by rfl) (World.ownsRow.alloc (owns_kept HRw.out (grown_drew _ none)) _) ⟨wr.heap.size, 0, none⟩ 1 1 (termCells (n, z)) (by rfl) (by rfl) news_at (by simp [termCells, Value.oneCell']) (by decide) (by unfold maxLen; omega) (by omega) (by have := HG.out.size; simp; omega) (wr.heap.size + 1) (by simp) ?_
        intro g' ncap w7 hown7 hgrow7 hat _
        have O7 := Lib.hid hown7
        have G7 := Lib.hid hgrow7
        have hb7 := heap_keep HF.out.box (grownBy_trans (grownBy_trans (grown_drew _ _) (World.grownBy_alloc _ _ _)) hgrow7) (fun e => by have := (World.ownsRow.lt HRw.out _ e).1; omega)
        obtain ⟨z0, z1, zf⟩ := cell_of_two hb7
        have x1 := hgrow7.cell ((grownBy_trans (grown_drew _ none) (World.grownBy_alloc _ _ _)).cell t1 (by simp)) (fun e => by have h9 : w2.heap.size ≤ T := (World.ownsRow.lt HRw.out _ e.symm).1; omega)
        have hm7 : MapAt w7 Bm k0 D := World.ownsMap.kept (World.ownsMap.kept HMr.out (grownBy_trans (grown_drew _ none) (World.grownBy_alloc _ _ none)) (by simp)) hgrow7 (fun e => by have h9 : w2.heap.size ≤ Bm := (World.ownsRow.lt HRw.out _ e.symm).1; omega)
        have x2 : (Instr.lookup 73 (.map (some Bm)) (.string n) false).run Tryz.prog w7 = .ok (.int .i64 z) w7 := (by rw [← hXz]; exact tot_look hm7 HT.out hsz)
        refine HK.out _ _ ⟨x1, x2, z1⟩ ?_
        clear hown7 hgrow7 hat hb7 hm7 HK
        refine late_done (by decide +kernel) ?_
        simp only [List.drop_succ_cons, List.drop_zero]
        all_goals
          have HFd : TfSt w wr.drew w2.heap.size c (.slice pv us.length vcap) us := ⟨grownBy_trans HF.out.grown (grown_drew _ _), HF.out.from_, heap_keep HF.out.res (grown_drew _ none) (by simp), heap_keep HF.out.box (grown_drew _ none) (by simp), owns_kept HF.out.row (grown_drew _ none)⟩
          have hGd : w2.grownBy wr.drew (some (w.heap.size + 1)) := grownBy_trans HG.out (grown_drew _ _)
          go_wp2_with fail
          go_roundw
          case rel =>
            obtain ⟨hp, hq⟩ := HFd.push (t := (n, z)) (g := g') (cap := ncap) G7.out hGd (Nat.le_refl _) O7.out
            exact ⟨k + 1, by omega, by go_num, _, us ++ [(n, z)], by show _ = _; rw [HTk.out, List.filterMap_append, List.filterMap_cons, HX.out, List.filterMap_nil, HU.out], by simp; omega, hp, hq⟩
          case measure => simp [intOf]; omega
    · obtain rfl : k = ns.length := by omega
      have hU := HU.out
      rw [List.take_length] at hU
      have HU2 := Lib.hid hU
      obtain ⟨pv, vcap, rfl⟩ := own_form HF.out.row
      obtain ⟨c1, c2, _⟩ := cell_of_two HF.out.box
      obtain ⟨r0, r1, rf⟩ := cell_of_two HF.out.res
      clear hU
      go_wp2
      obtain ⟨f1, f2⟩ := two_set HF.out.res (.int .i64 c) (.slice pv us.length vcap)
      refine bodyPost_ret (results_cell_row rfl _ _ w.heap.size _ _ _ _ rfl f1 Tryz.underlying28 rfl Tryz.infoForm2) rfl ⟨us, pv, vcap, rfl, ?_, ?_, by omega, grown_own HF.out.grown f2 (fun k hk => by cases hk; exact Nat.le_refl _)⟩
      · rw [HU2.out]
        exact terms_formX HT.out HKu.out _
      · exact owns_lower (owns_under HF.out.row f2 (fun k hk => by cases hk; omega)) (by omega)
end Go.Proofs.YtblpknkgjkbacaaGreatDoor
