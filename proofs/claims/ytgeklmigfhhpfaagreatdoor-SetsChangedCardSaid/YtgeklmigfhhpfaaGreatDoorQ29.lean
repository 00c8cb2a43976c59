/-
 The reference's meeting of two sets, before it is checked. The sides without one; the conditions of a side: the indices.
-/
import Derived.Deep.AppendLies
import Derived.Deep.DeepMust
import Derived.Test.YtgeklmigfhhpfaaGreatDoorQ15
import Derived.Test.YtgeklmigfhhpfaaGreatDoorQ25
import Derived.Test.YtgeklmigfhhpfaaGreatDoorQ28
namespace Go.Proofs.YtgeklmigfhhpfaaGreatDoor
open Go.RowKit
attribute [local go_sem ↓] Go.wp_at_zero Go.wp_at_succ
def SetGot (z : List SideD × List CondD) (w : World) (e : Ending) (w' : World) : Prop := w.grownBy w' none ∧ ∃ sv cv, e = .returned (.agg #[sv, cv]) ∧ SetAt w' sv cv z
structure MoSt (w wr : World) (sv cv tv dv pv : Value) (l : List SideD) : Prop where
 grown : w.grownBy wr none
 b0 : wr.heap[w.heap.size]? = some (.cells #[sv, cv] 29 (0, 0))
 b1 : wr.heap[w.heap.size + 1]? = some (.cells #[tv, dv] 29 (0, 0))
 res : wr.heap[w.heap.size + 2]? = some (.cells #[.slice none 0 0, .slice none 0 0] 29 (0, 0))
 box : wr.heap[w.heap.size + 3]? = some (.cells #[pv, .slice none 0 0] 29 (0, 0))
 row : wr.ownsRow (w.heap.size + 4) 63 3 pv l.length (l.flatMap sideCells)
theorem MoSt.start (w : World) (sv cv tv dv : Value) : MoSt w ((((w.alloc (.cells #[sv, cv] 29)).alloc (.cells #[tv, dv] 29)).alloc (.cells #[.slice none 0 0, .slice none 0 0] 29)).alloc (.cells #[.slice none 0 0, .slice none 0 0] 29)) sv cv tv dv (.slice none 0 0) [] := by
 have ga := gA w (.cells #[sv, cv] 29) none
 have gb := gA (w.alloc (.cells #[sv, cv] 29)) (.cells #[tv, dv] 29) none
 have gc := gA ((w.alloc (.cells #[sv, cv] 29)).alloc (.cells #[tv, dv] 29)) (.cells #[.slice none 0 0, .slice none 0 0] 29) none
 have gd := gA (((w.alloc (.cells #[sv, cv] 29)).alloc (.cells #[tv, dv] 29)).alloc (.cells #[.slice none 0 0, .slice none 0 0] 29)) (.cells #[.slice none 0 0, .slice none 0 0] 29) none
 have h1 := heap_alloc_new (w.alloc (.cells #[sv, cv] 29)) (.cells #[tv, dv] 29)
 have h2 := heap_alloc_new ((w.alloc (.cells #[sv, cv] 29)).alloc (.cells #[tv, dv] 29)) (.cells #[.slice none 0 0, .slice none 0 0] 29)
 have h3 := heap_alloc_new (((w.alloc (.cells #[sv, cv] 29)).alloc (.cells #[tv, dv] 29)).alloc (.cells #[.slice none 0 0, .slice none 0 0] 29)) (.cells #[.slice none 0 0, .slice none 0 0] 29)
 simp only [World.size_alloc] at h1 h2 h3
 exact ⟨gT ga (gT gb (gT gc gd)), kH (kH (kH (heap_alloc_new w _) gb (by simp)) gc (by simp)) gd (by simp), kH (kH h1 gc (by simp)) gd (by simp), kH h2 gd (by simp), h3, World.ownsRow_nil _ _ _ _⟩
theorem MoSt.size {w wr : World} {sv cv tv dv pv : Value} {l : List SideD} (h : MoSt w wr sv cv tv dv pv l) : w.heap.size + 3 < wr.heap.size := (Array.getElem?_eq_some_iff.1 h.box).1
theorem MoSt.push {w wr w3 w4 : World} {sv cv tv dv pv : Value} {l : List SideD} {o : Obj} {s : SideD} {g cap : Nat} (h : MoSt w wr sv cv tv dv pv l) (k1 : wr.grownBy w3 none) (k2 : (w3.alloc o).grownBy w4 pv.ownBlock)
  (row : w4.ownsRow (w.heap.size + 4) 63 3 (.slice (some ⟨g, 0, none⟩) (l.length + 1) cap) (l.length + 1) (l.flatMap sideCells ++ sideCells s)) :
  MoSt w (w4.setCell ⟨w.heap.size + 3, 0, none⟩ (.slice (some ⟨g, 0, none⟩) (l.length + 1) cap)) sv cv tv dv (.slice (some ⟨g, 0, none⟩) (l.length + 1) cap) (l ++ [s]) := by
 have hX := h.size
 have g2 := gS w4 (w.heap.size + 3) 0 (.slice (some ⟨g, 0, none⟩) (l.length + 1) cap)
 have k12 : wr.grownBy w4 pv.ownBlock := gT (grownBy_any _ (gT k1 (gA w3 o none))) k2
 have hob : ∀ k, pv.ownBlock = some k → w.heap.size + 4 ≤ k := fun k hk => (World.ownsRow.lt h.row k hk).1
 refine ⟨gO (gO h.grown k12 (fun k hk => by have := hob k hk; omega)) g2 (fun k hk => by cases hk; omega), kH (kH h.b0 k12 (fun e => by have := hob _ e; omega)) g2 (by simp), kH (kH h.b1 k12 (fun e => by have := hob _ e; omega)) g2 (by simp), kH (kH h.res k12 (fun e => by have := hob _ e; omega)) g2 (by simp), ?_, ?_⟩
 · show (w4.heap.modify (w.heap.size + 3) _)[w.heap.size + 3]? = _
   rw [Array.getElem?_modify, if_pos rfl, kH h.box k12 (fun e => by have := hob _ e; omega)]
   simp
 · have hr := owns_under row g2 (fun k hk => by cases hk; omega)
   simpa using hr
set_option maxRecDepth 100000 in
set_option maxHeartbeats 8000000 in
theorem meetOf_any (S T : List SideD × List CondD) (sv cv tv dv : Value) (w : World) (hS : SetAt w sv cv S) (hT : SetAt w tv dv T) (hl : S.1.length = T.1.length) (hn : S.1.length ≤ 100) (hnc : S.2.length + T.2.length ≤ 1000) (hg : ∀ s ∈ meetL S.1 T.1, goodSide s) :
  Calls Tryz.prog 18 #[.agg #[sv, cv], .agg #[tv, dv]] w (SetGot (meetL S.1 T.1, S.2 ++ T.2) w) := by
 obtain ⟨C, hC⟩ : ∃ C, C = S.2 ++ T.2 := ⟨_, rfl⟩
 rw [← hC]
 have HCe := uH hC
 clear hC
 obtain ⟨ps, scap, rfl, _, hsc⟩ := id hS.1
 obtain ⟨pt, tcap, rfl, _, htc⟩ := id hT.1
 obtain ⟨j0, hj0, hy0, hy1, hy2⟩ := info_parts Tryz.infoSide
 have HSc := uH hsc
 have HTc := uH htc
 have HS := uH hS
 have HT := uH hT
 have HL := uH hl
 have HGd := uH hg
 have HMl : Hid ((meetL S.1 T.1).length = S.1.length) := meet_len hl
 have HM := uH (MoSt.start w (.slice ps S.1.length scap) cv (.slice pt T.1.length tcap) dv)
 clear hS hT hsc htc hl hg
 go_enter Tryz.func18, Tryz.ntmps18
 go_upto_region 2 with fail
 generalize (((w.alloc (.cells #[.slice ps S.1.length scap, cv] 29)).alloc (.cells #[.slice pt T.1.length tcap, dv] 29)).alloc (.cells #[.slice none 0 0, .slice none 0 0] 29)).alloc (.cells #[.slice none 0 0, .slice none 0 0] 29) = w1 at *
 obtain ⟨x0, x1, _⟩ := cO HM.out.b0
 go_wp2_with fail
 go_loopw [11] (fun i wr => ∃ (k : Nat) (p : Option Addr) (cap : Nat), k ≤ S.1.length ∧ i = .int .i64 k ∧ Hid (MoSt w wr (.slice ps S.1.length scap) cv (.slice pt T.1.length tcap) dv (.slice p k cap) ((meetL S.1 T.1).take k))) (fun i _ => S.1.length - (intOf i).toNat)
 case atStart => exact ⟨0, none, 0, Nat.zero_le _, rfl, HM.out⟩
 case round =>
  obtain ⟨k, p, cap, hk, rfl, HM⟩ := hrel
  have hlen : ((meetL S.1 T.1).take k).length = k := by rw [List.length_take, HMl.out]; omega
  have HO : Hid (wr.ownsRow (w.heap.size + 4) 63 3 (.slice p k cap) k (((meetL S.1 T.1).take k).flatMap sideCells)) := by
   have h := HM.out.row
   rwa [hlen] at h
  have hsz := HM.out.size
  obtain ⟨x0, x1, _⟩ := cO HM.out.b0
  obtain ⟨y0, y1, _⟩ := cO HM.out.b1
  obtain ⟨m0, m1, mf⟩ := cO HM.out.box
  have HLn := uH hlen
  clear hlen
  by_cases hlt : k < S.1.length
  · have hlt2 : k < T.1.length := by have := HL.out; omega
    have h0 := List.getElem?_eq_getElem hlt
    have h1 := List.getElem?_eq_getElem hlt2
    obtain ⟨b, off, rfl, h3, ⟨h4, h4'⟩, ⟨h5, h5'⟩, h6, h7, h8⟩ := (HSc.out k _ h0).kept HM.out.grown
    have hb2 : ∃ b2 off2, pt = some ⟨b2, off2, none⟩ ∧ b2 < w.heap.size := by
     obtain ⟨b2, off2, hp2, _, _, _, c6, _⟩ := HTc.out k _ h1
     exact ⟨b2, off2, hp2, cell_lt c6⟩
    obtain ⟨b2, off2, rfl, hb2⟩ := hb2
    obtain ⟨b2', off2', hp2, g3, ⟨g4, g4'⟩, ⟨g5, g5'⟩, g6, g7, g8⟩ := (HTc.out k _ h1).kept HM.out.grown
    obtain ⟨rfl, rfl, _⟩ := Addr.mk.inj (Option.some.inj hp2)
    have HMt := uH (meet_take hlt hlt2)
    generalize S.1[k] = s at *
    generalize T.1[k] = t at *
    obtain ⟨sn, slo, shi⟩ := s
    obtain ⟨tn, tlo, thi⟩ := t
    simp only at h3 h4 h4' h5 h5' h6 h7 h8 g3 g4 g4' g5 g5' g6 g7 g8
    have ga := gA wr (.cells #[.string sn, .int .i64 slo, .int .i64 shi] 63) none
    have y0a := ga.cell y0 (by simp)
    have g7a := ga.cell g7 (by simp)
    have g8a := ga.cell g8 (by simp)
    have m0a := ga.cell m0 (by simp)
    have s0a : (wr.alloc (.cells #[.string sn, .int .i64 slo, .int .i64 shi] 63)).cell? ⟨wr.heap.size, 0, none⟩ = some (.string sn) := by simp
    have s1a : (wr.alloc (.cells #[.string sn, .int .i64 slo, .int .i64 shi] 63)).cell? ⟨wr.heap.size, 1, none⟩ = some (.int .i64 slo) := by simp
    have s2a : (wr.alloc (.cells #[.string sn, .int .i64 slo, .int .i64 shi] 63)).cell? ⟨wr.heap.size, 2, none⟩ = some (.int .i64 shi) := by simp
    have HGa := uH ga
    have hI1 : (k : Int) < (S.1.length : Int) := by omega
    have hI2 : (k : Int) < (T.1.length : Int) := by omega
    have hI0 : (0 : Int) ≤ (k : Int) := by omega
    clear h0 h1 ga g6 g7 g8 y0 m0
    go_upto_region 5 with fail
    have HGa' := HGa
    have hza : (wr.alloc (.cells #[.string sn, .int .i64 slo, .int .i64 shi] 63)).heap.size = wr.heap.size + 1 := by simp
    have HOa : Hid ((wr.alloc (.cells #[.string sn, .int .i64 slo, .int .i64 shi] 63)).ownsRow (w.heap.size + 4) 63 3 (.slice p k cap) k (((meetL S.1 T.1).take k).flatMap sideCells)) := World.ownsRow.alloc HO.out _
    generalize wr.alloc (.cells #[.string sn, .int .i64 slo, .int .i64 shi] 63) = wa at *
    have hp1 := (HM.out.grown).size
    have HSw : Hid ((fun W => W.cell? ⟨w.heap.size + 1 + 1 + 1, 0, none⟩ = some (.slice p k cap) ∧ W.cell? ⟨w.heap.size + 3, 0, none⟩ = some (.slice p k cap) ∧ W.cell? ⟨w.heap.size + 1, 0, none⟩ = some (.slice (some ⟨b2, off2, none⟩) T.1.length tcap) ∧ W.cell? ⟨b2, off2 + k * 3 + 1, none⟩ = some (.int .i64 tlo) ∧ W.cell? ⟨b2, off2 + k * 3 + 2, none⟩ = some (.int .i64 thi) ∧ W.cell? ⟨wr.heap.size, 0, none⟩ = some (.string sn) ∧ W.cell? ⟨wr.heap.size, 1, none⟩ = some (.int .i64 slo) ∧ W.cell? ⟨wr.heap.size, 2, none⟩ = some (.int .i64 shi)) wa.drew) := ⟨m0a, m0a, y0a, g7a, g8a, s0a, s1a, s2a⟩
    refine region_late (n := 24) (S := (fun W => W.cell? ⟨w.heap.size + 1 + 1 + 1, 0, none⟩ = some (.slice p k cap) ∧ W.cell? ⟨w.heap.size + 3, 0, none⟩ = some (.slice p k cap) ∧ W.cell? ⟨w.heap.size + 1, 0, none⟩ = some (.slice (some ⟨b2, off2, none⟩) T.1.length tcap) ∧ W.cell? ⟨b2, off2 + k * 3 + 1, none⟩ = some (.int .i64 tlo) ∧ W.cell? ⟨b2, off2 + k * 3 + 2, none⟩ = some (.int .i64 thi) ∧ W.cell? ⟨wr.heap.size, 0, none⟩ = some (.string sn) ∧ W.cell? ⟨wr.heap.size, 1, none⟩ = some (.int .i64 slo) ∧ W.cell? ⟨wr.heap.size, 2, none⟩ = some (.int .i64 shi))) (by kernel_rfl) ⟨by kernel_rfl, by kernel_rfl, by kernel_rfl, by decide⟩ ?_
    refine late_take (i := 0) (v := ?v0) ⟨by kernel_rfl, by kernel_rfl, by kernel_rfl, by decide⟩ rfl (by decide +kernel) (by decide +kernel) (by decide +kernel) (fun _ _ _ h => h) (Or.inl ⟨by rfl, ?h0⟩) HSw.out ?r0
    case h0 =>
     intro W hW
     obtain ⟨t0, t1, t2, t3, t4, t5, t6, t7⟩ := hW
     go_simp
     with_reducible rfl
    go_frame
    refine late_take (i := 1) (v := ?v1) ⟨by kernel_rfl, by kernel_rfl, by kernel_rfl, by decide⟩ rfl (by decide +kernel) (by decide +kernel) (by decide +kernel) (fun _ _ _ h => h) (Or.inl ⟨by rfl, ?h1⟩) HSw.out ?r1
    case h1 =>
     intro W hW
     obtain ⟨t0, t1, t2, t3, t4, t5, t6, t7⟩ := hW
     go_simp
     with_reducible rfl
    go_frame
    refine late_take (i := 2) (v := ?v2) ⟨by kernel_rfl, by kernel_rfl, by kernel_rfl, by decide⟩ rfl (by decide +kernel) (by decide +kernel) (by decide +kernel) (fun _ _ _ h => h) (Or.inl ⟨by rfl, ?h2⟩) HSw.out ?r2
    case h2 =>
     intro W hW
     obtain ⟨t0, t1, t2, t3, t4, t5, t6, t7⟩ := hW
     go_simp
     with_reducible rfl
    go_frame
    refine late_take (i := 3) (v := ?v3) ⟨by kernel_rfl, by kernel_rfl, by kernel_rfl, by decide⟩ rfl (by decide +kernel) (by decide +kernel) (by decide +kernel) (fun _ _ _ h => h) (Or.inl ⟨by rfl, ?h3⟩) HSw.out ?r3
    case h3 =>
     intro W hW
     obtain ⟨t0, t1, t2, t3, t4, t5, t6, t7⟩ := hW
     go_simp
     with_reducible rfl
    go_frame
    refine late_take (i := 4) (v := ?v4) ⟨by kernel_rfl, by kernel_rfl, by kernel_rfl, by decide⟩ rfl (by decide +kernel) (by decide +kernel) (by decide +kernel) (fun _ _ _ h => h) (Or.inl ⟨by rfl, ?h4⟩) HSw.out ?r4
    case h4 =>
     intro W hW
     obtain ⟨t0, t1, t2, t3, t4, t5, t6, t7⟩ := hW
     go_simp
     with_reducible rfl
    go_frame
    refine late_take (i := 5) (v := ?v5) ⟨by kernel_rfl, by kernel_rfl, by kernel_rfl, by decide⟩ rfl (by decide +kernel) (by decide +kernel) (by decide +kernel) (fun _ _ _ h => h) (Or.inl ⟨by rfl, ?h5⟩) HSw.out ?r5
    case h5 =>
     intro W hW
     obtain ⟨t0, t1, t2, t3, t4, t5, t6, t7⟩ := hW
     go_simp
     with_reducible rfl
    go_frame
    refine late_take (i := 6) (v := ?v6) ⟨by kernel_rfl, by kernel_rfl, by kernel_rfl, by decide⟩ rfl (by decide +kernel) (by decide +kernel) (by decide +kernel) (fun _ _ _ h => h) (Or.inl ⟨by rfl, ?h6⟩) HSw.out ?r6
    case h6 =>
     intro W hW
     obtain ⟨t0, t1, t2, t3, t4, t5, t6, t7⟩ := hW
     go_simp
     with_reducible rfl
    go_frame
    refine late_take (i := 7) (v := ?v7) ⟨by kernel_rfl, by kernel_rfl, by kernel_rfl, by decide⟩ rfl (by decide +kernel) (by decide +kernel) (by decide +kernel) (fun _ _ _ h => h) (Or.inl ⟨by rfl, ?h7⟩) HSw.out ?r7
    case h7 =>
     intro W hW
     obtain ⟨t0, t1, t2, t3, t4, t5, t6, t7⟩ := hW
     go_simp
     with_reducible rfl
    go_frame
    refine late_take (i := 8) (v := ?v8) ⟨by kernel_rfl, by kernel_rfl, by kernel_rfl, by decide⟩ rfl (by decide +kernel) (by decide +kernel) (by decide +kernel) (fun _ _ _ h => h) (Or.inl ⟨by rfl, ?h8⟩) HSw.out ?r8
    case h8 =>
     intro W hW
     obtain ⟨t0, t1, t2, t3, t4, t5, t6, t7⟩ := hW
     go_simp
     with_reducible rfl
    go_frame
    refine late_take (i := 9) (v := ?v9) ⟨by kernel_rfl, by kernel_rfl, by kernel_rfl, by decide⟩ rfl (by decide +kernel) (by decide +kernel) (by decide +kernel) (fun _ _ _ h => h) (Or.inl ⟨by rfl, ?h9⟩) HSw.out ?r9
    case h9 =>
     intro W hW
     obtain ⟨t0, t1, t2, t3, t4, t5, t6, t7⟩ := hW
     go_simp
     with_reducible rfl
    go_frame
    refine late_take (i := 10) (v := ?v10) ⟨by kernel_rfl, by kernel_rfl, by kernel_rfl, by decide⟩ rfl (by decide +kernel) (by decide +kernel) (by decide +kernel) (fun _ _ _ h => h) (Or.inl ⟨by rfl, ?h10⟩) HSw.out ?r10
    case h10 =>
     intro W hW
     obtain ⟨t0, t1, t2, t3, t4, t5, t6, t7⟩ := hW
     go_simp
     with_reducible rfl
    go_frame
    refine late_take (i := 11) (v := ?v11) ⟨by kernel_rfl, by kernel_rfl, by kernel_rfl, by decide⟩ rfl (by decide +kernel) (by decide +kernel) (by decide +kernel) (fun _ _ _ h => h) (Or.inl ⟨by rfl, ?h11⟩) HSw.out ?r11
    case h11 =>
     intro W hW
     obtain ⟨t0, t1, t2, t3, t4, t5, t6, t7⟩ := hW
     go_simp
     with_reducible rfl
    go_frame
    refine late_take (i := 12) (v := ?v12) ⟨by kernel_rfl, by kernel_rfl, by kernel_rfl, by decide⟩ rfl (by decide +kernel) (by decide +kernel) (by decide +kernel) (fun _ _ _ h => h) (Or.inl ⟨by rfl, ?h12⟩) HSw.out ?r12
    case h12 =>
     intro W hW
     obtain ⟨t0, t1, t2, t3, t4, t5, t6, t7⟩ := hW
     go_simp
     with_reducible rfl
    go_frame
    refine late_take (i := 13) (v := ?v13) ⟨by kernel_rfl, by kernel_rfl, by kernel_rfl, by decide⟩ rfl (by decide +kernel) (by decide +kernel) (by decide +kernel) (fun _ _ _ h => h) (Or.inl ⟨by rfl, ?h13⟩) HSw.out ?r13
    case h13 =>
     intro W hW
     obtain ⟨t0, t1, t2, t3, t4, t5, t6, t7⟩ := hW
     go_simp
     with_reducible rfl
    go_frame
    refine late_take (i := 14) (v := ?v14) ⟨by kernel_rfl, by kernel_rfl, by kernel_rfl, by decide⟩ rfl (by decide +kernel) (by decide +kernel) (by decide +kernel) (fun _ _ _ h => h) (Or.inl ⟨by rfl, ?h14⟩) HSw.out ?r14
    case h14 =>
     intro W hW
     obtain ⟨t0, t1, t2, t3, t4, t5, t6, t7⟩ := hW
     go_simp
     with_reducible rfl
    go_frame
    refine late_take (i := 15) (v := ?v15) ⟨by kernel_rfl, by kernel_rfl, by kernel_rfl, by decide⟩ rfl (by decide +kernel) (by decide +kernel) (by decide +kernel) (fun _ _ _ h => h) (Or.inl ⟨by rfl, ?h15⟩) HSw.out ?r15
    case h15 =>
     intro W hW
     obtain ⟨t0, t1, t2, t3, t4, t5, t6, t7⟩ := hW
     go_simp
     with_reducible rfl
    go_frame
    refine late_take (i := 16) (v := ?v16) ⟨by kernel_rfl, by kernel_rfl, by kernel_rfl, by decide⟩ rfl (by decide +kernel) (by decide +kernel) (by decide +kernel) (fun _ _ _ h => h) (Or.inl ⟨by rfl, ?h16⟩) HSw.out ?r16
    case h16 =>
     intro W hW
     obtain ⟨t0, t1, t2, t3, t4, t5, t6, t7⟩ := hW
     go_simp
     with_reducible rfl
    go_frame
    refine late_take (i := 17) (v := ?v17) ⟨by kernel_rfl, by kernel_rfl, by kernel_rfl, by decide⟩ rfl (by decide +kernel) (by decide +kernel) (by decide +kernel) (fun _ _ _ h => h) (Or.inl ⟨by rfl, ?h17⟩) HSw.out ?r17
    case h17 =>
     intro W hW
     obtain ⟨t0, t1, t2, t3, t4, t5, t6, t7⟩ := hW
     go_simp
     with_reducible rfl
    go_frame
    refine late_take (i := 18) (v := ?v18) ⟨by kernel_rfl, by kernel_rfl, by kernel_rfl, by decide⟩ rfl (by decide +kernel) (by decide +kernel) (by decide +kernel) (fun _ _ _ h => h) (Or.inl ⟨by rfl, ?h18⟩) HSw.out ?r18
    case h18 =>
     intro W hW
     obtain ⟨t0, t1, t2, t3, t4, t5, t6, t7⟩ := hW
     go_simp
     with_reducible rfl
    go_frame
    refine late_take (i := 19) (v := ?v19) ⟨by kernel_rfl, by kernel_rfl, by kernel_rfl, by decide⟩ rfl (by decide +kernel) (by decide +kernel) (by decide +kernel) (fun _ _ _ h => h) (Or.inl ⟨by rfl, ?h19⟩) HSw.out ?r19
    case h19 =>
     intro W hW
     obtain ⟨t0, t1, t2, t3, t4, t5, t6, t7⟩ := hW
     go_simp
     with_reducible rfl
    go_frame
    refine late_take (i := 20) (v := ?v20) ⟨by kernel_rfl, by kernel_rfl, by kernel_rfl, by decide⟩ rfl (by decide +kernel) (by decide +kernel) (by decide +kernel) (fun _ _ _ h => h) (Or.inl ⟨by rfl, ?h20⟩) HSw.out ?r20
    case h20 =>
     intro W hW
     obtain ⟨t0, t1, t2, t3, t4, t5, t6, t7⟩ := hW
     go_simp
     with_reducible rfl
    go_frame
    refine late_take (i := 21) (v := ?v21) ⟨by kernel_rfl, by kernel_rfl, by kernel_rfl, by decide⟩ rfl (by decide +kernel) (by decide +kernel) (by decide +kernel) (fun _ _ _ h => h) (Or.inl ⟨by rfl, ?h21⟩) HSw.out ?r21
    case h21 =>
     intro W hW
     obtain ⟨t0, t1, t2, t3, t4, t5, t6, t7⟩ := hW
     go_simp
     with_reducible rfl
    go_frame
    refine late_take (i := 22) (v := ?v22) ⟨by kernel_rfl, by kernel_rfl, by kernel_rfl, by decide⟩ rfl (by decide +kernel) (by decide +kernel) (by decide +kernel) (fun _ _ _ h => h) (Or.inl ⟨by rfl, ?h22⟩) HSw.out ?r22
    case h22 =>
     intro W hW
     obtain ⟨t0, t1, t2, t3, t4, t5, t6, t7⟩ := hW
     go_simp
     with_reducible rfl
    go_frame
    refine late_one (i := 23) rfl (by kernel_rfl) (by kernel_rfl) (fun K hK => ?_)
    have HK := uH hK
    clear hK
    go_simp
    refine HK.out _ _ ⟨(gA _ _ none).cell m0a (by simp), (gA _ _ none).cell m0a (by simp), (gA _ _ none).cell y0a (by simp), (gA _ _ none).cell g7a (by simp), (gA _ _ none).cell g8a (by simp), (gA _ _ none).cell s0a (by simp), (gA _ _ none).cell s1a (by simp), (gA _ _ none).cell s2a (by simp)⟩ ?_
    clear HK
    refine late_done (by decide +kernel) ?_
    simp only [List.drop_succ_cons, List.drop_zero]
    go_wp2_with (at_builtin; go_must (refine wpList_append_lies _ rfl _ _ 26 rfl (w.heap.size + 4) 63 j0 (.agg #[.string ByteArray.empty, .int .i64 0, .int .i64 0]) 3 32 Tryz.underlying26 hj0 hy0 hy1 hy2 rfl (by decide) _ k (((meetL S.1 T.1).take k).flatMap sideCells) rfl (owns_kept HOa.out (by first | exact gT (gA _ _ _) (gD _ none) | exact gT (gD _ none) (gA _ _ none))) ⟨wr.heap.size + 1, 0, none⟩ 1 1 (sideCells (sn, max slo tlo, min shi thi)) rfl rfl (news_at' (w := wa) (news := sideCells (sn, max slo tlo, min shi thi)) hza) (by simp [sideCells, Value.oneCell']) (by decide) (by unfold maxLen; omega) (by omega) (by show w.heap.size + 4 ≤ (wa.alloc _).heap.size; rw [World.size_alloc, hza]; omega) (wr.heap.size + 2) (by show (wa.alloc _).heap.size = _; rw [World.size_alloc, hza]) ?_; intro g ncap w7 hown7 hgrow7 hat _; have O7 := uH hown7; have G7 : Hid ((wa.alloc (.cells #[.string sn, .int .i64 (max slo tlo), .int .i64 (min shi thi)] 63)).grownBy w7 (Value.slice p k cap).ownBlock) := gT (gD _ _) hgrow7; have hb7 := kH HM.out.box (gT (grownBy_any _ HGa.out) (gT (gA wa (.cells #[.string sn, .int .i64 (max slo tlo), .int .i64 (min shi thi)] 63) _) G7.out)) (fun e => by have := (World.ownsRow.lt HO.out _ e).1; omega); obtain ⟨z0, z1, zf⟩ := cO hb7; have z0' : w7.cell? ⟨w.heap.size + 1 + 1 + 1, 0, none⟩ = some (.slice p k cap) := z0; have zf' : w7.frozen? ⟨w.heap.size + 1 + 1 + 1, 0, none⟩ = false := zf 0; clear hown7 hgrow7 hat hb7))
    go_roundw
    case rel =>
     refine ⟨k + 1, some ⟨g, 0, none⟩, ncap, by omega, by go_num, ?_⟩
     have hp := HM.out.push (s := (sn, max slo tlo, min shi thi)) (g := g) (cap := ncap) HGa.out G7.out (by rw [HLn.out]; exact O7.out)
     rw [HLn.out] at hp
     show MoSt _ _ _ _ _ _ _ _
     rw [HMt.out]
     exact hp
    case measure => simp [intOf]; omega
  · obtain rfl : k = S.1.length := by omega
    have htk : (meetL S.1 T.1).take S.1.length = meetL S.1 T.1 := List.take_of_length_le (by rw [HMl.out]; exact Nat.le_refl _)
    have HSd : Hid (SidesAt wr (.slice p S.1.length cap) (meetL S.1 T.1)) := by
     refine sides_of_owns (base := w.heap.size + 4) (e := 63) ?_ (by rw [HMl.out]; omega) HGd.out
     have h := HO.out
     rw [htk] at h
     rw [HMl.out]
     exact h
    clear htk
    go_upto_region 7 with fail
    go_region_held3 (fun W => W.cell? ⟨w.heap.size, 1, none⟩ = some cv ∧ W.cell? ⟨w.heap.size + 1, 1, none⟩ = some dv) (first
     | go_keep
     | (with_reducible exact ⟨q0, q1⟩)
     | (with_reducible exact ⟨K4.out.cell x1 (by simp), K4.out.cell y1 (by simp)⟩)
     | exact ⟨(gS _ _ _ _).cell q0 (by simp <;> omega), (gS _ _ _ _).cell q1 (by simp <;> omega)⟩) (first
     | (go_at_call 36; go_must (refine (cloneForms_any cv S.2 _ (HS.out.2.kept (gT HM.out.grown (by first | exact gR _ _ | exact gD _ _))) (by omega)).mono ?_; rintro e w4 ⟨pc, ccap, tvs, rfl, hcw, hg4⟩; have HC4 := uH hcw; have K4 : Hid (wr.grownBy w4 none) := gT (by first | exact gR _ _ | exact gD _ _) hg4; obtain ⟨v5, w5, us5, hr5, hc5, hg5, _⟩ := conds_append 27 hcw HT.out.2 (gT HM.out.grown K4.out) (by simp; omega) (by have := K4.out.size; simpa using this) (by omega); rw [← HCe.out] at hc5; obtain ⟨pv, vcap, rfl⟩ := own_form hc5.row; have HR5 := uH hr5; have HC5 := uH hc5; have K5 : Hid (wr.grownBy w5 none) := gO K4.out hg5 (fun k hk => by have := (hcw.row.lt k hk).1; simpa using this); have q0 := K5.out.cell x1 (by simp); have q1 := K5.out.cell y1 (by simp); obtain ⟨z0, z1, zf⟩ := cO (kH HM.out.box K5.out (by simp)); have z1' : w5.cell? ⟨w.heap.size + 1 + 1 + 1, 1, none⟩ = some (.slice none 0 0) := z1; have zf' : w5.frozen? ⟨w.heap.size + 1 + 1 + 1, 1, none⟩ = false := zf 1; clear hcw hg4 hr5 hc5 hg5))
     | (refine step_append_run (by rfl) _ _ 27 (by rfl) _ _ (.slice pv C.length vcap) (by rfl) (by rfl) HR5.out ?_))
    all_goals
     have hb5 := kH HM.out.box K5.out (by simp)
     have hr5 := kH HM.out.res K5.out (by simp)
     have g6 := gS w5 (w.heap.size + 3) 1 (.slice pv C.length vcap)
     have hb6 : (w5.setCell ⟨w.heap.size + 3, 1, none⟩ (.slice pv C.length vcap)).heap[w.heap.size + 3]? = some (.cells #[.slice p S.1.length cap, .slice pv C.length vcap] 29 (0, 0)) := by
      show (w5.heap.modify (w.heap.size + 3) _)[w.heap.size + 3]? = _
      rw [Array.getElem?_modify, if_pos rfl, hb5]
      simp
     have hr6 := kH hr5 g6 (by simp)
     have HA6 : Hid (SetAt (w5.setCell ⟨w.heap.size + 3, 1, none⟩ (.slice pv C.length vcap)) (.slice p S.1.length cap) (.slice pv C.length vcap) (meetL S.1 T.1, C)) := ⟨(HSd.out.kept K5.out).over (slBox_two hb5) g6, (HC5.out.conds (by rw [HCe.out, List.length_append]; omega)).over (slBox_two hb5) g6⟩
     have HG6 : Hid (w.grownBy (w5.setCell ⟨w.heap.size + 3, 1, none⟩ (.slice pv C.length vcap)) none) := gO (gT HM.out.grown K5.out) g6 (fun k hk => by cases hk; omega)
     obtain ⟨c0, c1, cf⟩ := cO hb6
     obtain ⟨d0, d1, df⟩ := cO hr6
     generalize w5.setCell ⟨w.heap.size + 3, 1, none⟩ (.slice pv C.length vcap) = w6 at *
     go_wp2
     obtain ⟨f1, f2⟩ := two_set hr6 (.slice p S.1.length cap) (.slice pv C.length vcap)
     exact bodyPost_ret (results_cell_row rfl _ _ (w.heap.size + 2) _ _ _ _ rfl f1 Tryz.underlying29 rfl Tryz.infoSet2) rfl ⟨gO HG6.out f2 (fun k hk => by cases hk; omega), _, _, rfl, HA6.out.over (slBox_two hr6) f2⟩
end Go.Proofs.YtgeklmigfhhpfaaGreatDoor
namespace Go.Proofs.YtgeklmigfhhpfaaGreatDoor
open Go.RowKit
attribute [local go_sem ↓] Go.wp_at_zero Go.wp_at_succ
theorem others1_any (n x : ByteArray) (lo hi : Int) (P : Nat) (w : World) (hp : w.cell? ⟨P, 0, none⟩ = some (.string x)) :
  Calls Tryz.prog 117 #[.agg #[.string n, .int .i64 lo, .int .i64 hi], .pointer (some ⟨P, 0, none⟩)] w (Gives (.bool (n.toList == x.toList)) w) := by
 have hp' := (gA w (.cells #[.string n, .int .i64 lo, .int .i64 hi] 63) none).cell hp (by simp)
 clear hp
 go_enter Tryz.func117, Tryz.ntmps117
 go_wp2
 all_goals
  go_ret
  exact ⟨ret_bool (by simp [*]), gA _ _ _⟩
theorem sideConds1_any (n x : ByteArray) (lo hi : Int) (P : Nat) (w : World) (hp : w.cell? ⟨P, 0, none⟩ = some (.string x)) :
  Calls Tryz.prog 118 #[.agg #[.string n, .int .i64 lo, .int .i64 hi], .pointer (some ⟨P, 0, none⟩)] w (Gives (.bool (n.toList == x.toList)) w) := by
 have hp' := (gA w (.cells #[.string n, .int .i64 lo, .int .i64 hi] 63) none).cell hp (by simp)
 clear hp
 go_enter Tryz.func118, Tryz.ntmps118
 go_wp2
 all_goals
  go_ret
  exact ⟨ret_bool (by simp [*]), gA _ _ _⟩
set_option maxRecDepth 100000 in
set_option maxHeartbeats 1000000 in
theorem indexOthers_any (v : Value) (l : List SideD) (x : ByteArray) (P : Nat) (w : World) (hl : SidesAt w v l) (hp : w.cell? ⟨P, 0, none⟩ = some (.string x)) :
  Calls Tryz.prog 115 #[v, .func (.func 117) #[] #[.pointer (some ⟨P, 0, none⟩)]] w (Gives (.int .i64 (firstI (sameName x) l)) w) := by
 obtain ⟨p, cap, rfl, ⟨hlen, _⟩, hc⟩ := hl
 have H := uH hc
 have HP := uH hp
 clear hc hp
 go_enter Tryz.func115, Tryz.ntmps115
 go_wp2
 go_loopw [8] (fun i wr => ∃ k : Nat, k ≤ l.length ∧ i = .int .i64 k ∧ Hid ((l.take k).any (sameName x) = false) ∧ Hid (w.grownBy wr none)) (fun i _ => l.length - (intOf i).toNat)
 case atStart => exact ⟨0, Nat.zero_le _, rfl, rfl, gR _ _⟩
 case round =>
  obtain ⟨k, hk, rfl, HR, HG⟩ := hrel
  by_cases hlt : k < l.length
  · have h0 := List.getElem?_eq_getElem hlt
    obtain ⟨b, off, rfl, h3, ⟨h4, h4'⟩, ⟨h5, h5'⟩, h6, h7, h8⟩ := (H.out k _ h0).kept HG.out
    have HS := uH (any_snoc (q := sameName x) h0)
    have HH := uH (fun hq => firstI_hit (q := sameName x) h0 HR.out hq)
    have HC := uH (others1_any (l[k]).1 x (l[k]).2.1 (l[k]).2.2 P wr (HG.out.cell HP.out (by simp)))
    have HE := uH (show sameName x l[k] = ((l[k]).1.toList == x.toList) from rfl)
    generalize hn : (l[k]).1 = n at *
    generalize hlo : (l[k]).2.1 = lo at *
    generalize hhi : (l[k]).2.2 = hi' at *
    clear h0 hn hlo hhi
    go_wp2_with (first | (go_at_call 117; refine HC.out.mono ?_; rintro e w' ⟨rfl, hg1⟩; have G1 := uH hg1; clear hg1))
    · have he : (n.toList == x.toList) = true := by assumption
      go_ret
      exact ⟨ret_i64 (HH.out (by rw [HE.out, he])).symm, gT HG.out G1.out⟩
    · have he : (n.toList == x.toList) = false := by assumption
      go_roundw
      case rel => exact ⟨k + 1, by omega, by go_num, by show _ = _; rw [HS.out, HR.out, HE.out, he]; rfl, gT HG.out G1.out⟩
      case measure => simp [intOf]; omega
  · obtain rfl : k = l.length := by omega
    go_wp2
    go_ret
    exact ⟨ret_i64 (firstI_miss (by have := HR.out; rwa [List.take_length] at this)).symm, HG.out⟩
set_option maxRecDepth 100000 in
set_option maxHeartbeats 1000000 in
theorem indexSide_any (v : Value) (l : List SideD) (x : ByteArray) (P : Nat) (w : World) (hl : SidesAt w v l) (hp : w.cell? ⟨P, 0, none⟩ = some (.string x)) :
  Calls Tryz.prog 115 #[v, .func (.func 118) #[] #[.pointer (some ⟨P, 0, none⟩)]] w (Gives (.int .i64 (firstI (sameName x) l)) w) := by
 obtain ⟨p, cap, rfl, ⟨hlen, _⟩, hc⟩ := hl
 have H := uH hc
 have HP := uH hp
 clear hc hp
 go_enter Tryz.func115, Tryz.ntmps115
 go_wp2
 go_loopw [8] (fun i wr => ∃ k : Nat, k ≤ l.length ∧ i = .int .i64 k ∧ Hid ((l.take k).any (sameName x) = false) ∧ Hid (w.grownBy wr none)) (fun i _ => l.length - (intOf i).toNat)
 case atStart => exact ⟨0, Nat.zero_le _, rfl, rfl, gR _ _⟩
 case round =>
  obtain ⟨k, hk, rfl, HR, HG⟩ := hrel
  by_cases hlt : k < l.length
  · have h0 := List.getElem?_eq_getElem hlt
    obtain ⟨b, off, rfl, h3, ⟨h4, h4'⟩, ⟨h5, h5'⟩, h6, h7, h8⟩ := (H.out k _ h0).kept HG.out
    have HS := uH (any_snoc (q := sameName x) h0)
    have HH := uH (fun hq => firstI_hit (q := sameName x) h0 HR.out hq)
    have HC := uH (sideConds1_any (l[k]).1 x (l[k]).2.1 (l[k]).2.2 P wr (HG.out.cell HP.out (by simp)))
    have HE := uH (show sameName x l[k] = ((l[k]).1.toList == x.toList) from rfl)
    generalize hn : (l[k]).1 = n at *
    generalize hlo : (l[k]).2.1 = lo at *
    generalize hhi : (l[k]).2.2 = hi' at *
    clear h0 hn hlo hhi
    go_wp2_with (first | (go_at_call 118; refine HC.out.mono ?_; rintro e w' ⟨rfl, hg1⟩; have G1 := uH hg1; clear hg1))
    · have he : (n.toList == x.toList) = true := by assumption
      go_ret
      exact ⟨ret_i64 (HH.out (by rw [HE.out, he])).symm, gT HG.out G1.out⟩
    · have he : (n.toList == x.toList) = false := by assumption
      go_roundw
      case rel => exact ⟨k + 1, by omega, by go_num, by show _ = _; rw [HS.out, HR.out, HE.out, he]; rfl, gT HG.out G1.out⟩
      case measure => simp [intOf]; omega
  · obtain rfl : k = l.length := by omega
    go_wp2
    go_ret
    exact ⟨ret_i64 (firstI_miss (by have := HR.out; rwa [List.take_length] at this)).symm, HG.out⟩
end Go.Proofs.YtgeklmigfhhpfaaGreatDoor
