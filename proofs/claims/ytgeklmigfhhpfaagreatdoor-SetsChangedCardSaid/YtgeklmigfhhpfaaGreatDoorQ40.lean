/-
 A set with the same variables, nearly always.
-/
import Derived.Deep.AppendLies
import Derived.IntWalk
import Derived.Deep.DeepMust
import Derived.Test.YtgeklmigfhhpfaaGreatDoorQ17
import Derived.Test.YtgeklmigfhhpfaaGreatDoorQ28
import Derived.Test.YtgeklmigfhhpfaaGreatDoorQ38
import Derived.Test.YtgeklmigfhhpfaaGreatDoorQ39
namespace Go.Proofs.YtgeklmigfhhpfaaGreatDoor
open Go.RowKit
attribute [local go_sem ↓] Go.wp_at_zero Go.wp_at_succ
theorem conds_of_z {w : World} {P : Nat} {kv : Value} {zs : List (CondD × Value)} (h : ZRow w P kv zs) (hl : zs.length ≤ 1000000) (ht : ZTerms w zs) : CondsAt w kv (zs.map Prod.fst) := by
 obtain ⟨p, cap, rfl⟩ := own_form h
 refine ⟨p, cap, by rw [List.length_map], by rw [List.length_map]; exact hl, fun j f hj => ?_⟩
 rw [List.getElem?_map] at hj
 cases hz : zs[j]? with
 | none => rw [hz] at hj; cases hj
 | some z =>
   rw [hz] at hj
   obtain rfl := Option.some.inj hj
   obtain ⟨g, rfl, c0, c1⟩ := h.cells hz
   obtain ⟨t1, t2, t3⟩ := ht z (List.mem_of_getElem? hz)
   exact ⟨g, 0, z.2, rfl, by simpa using c0, by simpa using c1, t1, t2, t3⟩
theorem wrap_range (n : Int) : -9223372036854775808 ≤ wrap64 n ∧ wrap64 n ≤ 9223372036854775807 := by
 unfold wrap64
 omega
theorem wrap_rangeK (n : Int) : -9223372036854775808 ≤ IntKind.i64.wrap n ∧ IntKind.i64.wrap n ≤ 9223372036854775807 := by
 rw [IntWalk.i64_left]
 exact wrap_range n
theorem cell3 {w : World} {g : Nat} {a b c : Value} {T : TypeId} {fr : Nat × Nat} (h : w.heap[g]? = some (.cells #[a, b, c] T fr)) : w.cell? ⟨g, 0, none⟩ = some a ∧ w.cell? ⟨g, 1, none⟩ = some b ∧ w.cell? ⟨g, 2, none⟩ = some c := by
 simp [World.cell?, h]
theorem cell3f {w : World} {g : Nat} {a b c : Value} {T : TypeId} (h : w.heap[g]? = some (.cells #[a, b, c] T (0, 0))) : w.cell? ⟨g, 0, none⟩ = some a ∧ w.cell? ⟨g, 1, none⟩ = some b ∧ w.cell? ⟨g, 2, none⟩ = some c ∧ ∀ k, w.frozen? ⟨g, k, none⟩ = false := by
 refine ⟨by simp [World.cell?, h], by simp [World.cell?, h], by simp [World.cell?, h], fun k => by simp [World.frozen?, h]⟩
def SetStay (B : Nat) (w : World) (sv cv : Value) (S : List SideD × List CondD) : Prop := ∀ w2, w.grownBy w2 (some B) → SetAt w2 sv cv S
theorem stream_two {w : World} {B m : Nat} (hs : StreamAt w B m) : ∃ (p : Option Addr) (n c : Nat) (a : Int) (T : TypeId), w.heap[B]? = some (.cells #[.slice p n c, .int .i64 a] T (0, 0)) := by
 obtain ⟨L, a, _, h, hL⟩ := hs
 rcases hL with rfl | ⟨b, off, len, cap, rfl, _⟩
 · exact ⟨_, _, _, _, _, h⟩
 · exact ⟨_, _, _, _, _, h⟩
theorem off_str {w : World} {B m b k : Nat} {s : ByteArray} (hs : StreamAt w B m) (h : w.cell? ⟨b, k, none⟩ = some (.string s)) : b ≠ B := fun e => by
 subst e
 obtain ⟨p, n, c, a, T, hb⟩ := stream_two hs
 unfold World.cell? at h
 rw [hb] at h
 match k with
 | 0 => simp at h
 | 1 => simp at h
 | k + 2 => simp at h
theorem off_form {w : World} {B m b k : Nat} {z : Int} {v : Value} (hs : StreamAt w B m) (h : w.cell? ⟨b, k, none⟩ = some (.int .i64 z)) (h2 : w.cell? ⟨b, k + 1, none⟩ = some v) : b ≠ B := fun e => by
 subst e
 obtain ⟨p, n, c, a, T, hb⟩ := stream_two hs
 unfold World.cell? at h h2
 rw [hb] at h h2
 match k with
 | 0 => simp at h
 | 1 => simp at h2
 | k + 2 => simp at h
theorem SetAt.stay {w : World} {B m : Nat} {sv cv : Value} {S : List SideD × List CondD} (h : SetAt w sv cv S) (hs : StreamAt w B m) : SetStay B w sv cv S := fun w2 hg => by
 obtain ⟨⟨p, c, hv, hl, hc⟩, q, d, hv2, hl2, hd⟩ := h
 refine ⟨⟨p, c, hv, hl, fun j s hj => ?_⟩, q, d, hv2, hl2, fun j f hj => ?_⟩
 · obtain ⟨b, off, hp, h1, h2, h3, h4, h5, h6⟩ := hc j s hj
   have hb := off_str hs h4
   exact ⟨b, off, hp, h1, h2, h3, far_cell hb hg h4, far_cell hb hg h5, far_cell hb hg h6⟩
 · obtain ⟨b, off, tv, hp, h1, h2, ⟨p3, c3, hv3, hl3, ht⟩, h4⟩ := hd j f hj
   have hb := off_form hs h1 h2
   refine ⟨b, off, tv, hp, far_cell hb hg h1, far_cell hb hg h2, ⟨p3, c3, hv3, hl3, fun i t hi => ?_⟩, h4⟩
   obtain ⟨b5, o5, hp5, k1, k2, k3, k4, k5⟩ := ht i t hi
   have hb5 := off_str hs k4
   exact ⟨b5, o5, hp5, k1, k2, k3, far_cell hb5 hg k4, far_cell hb5 hg k5⟩
def OtherOf (B m : Nat) (w : World) (e : Ending) (w' : World) : Prop := ∃ sv cv S, e = .returned (.agg #[sv, cv]) ∧ SetStay B w' sv cv S ∧ Drawn B m w w'
structure OtB (B M : Nat) (w0 wr : World) (sv cv : Value) : Prop where
 lt : B < w0.heap.size
 drawn : Drawn B M w0 wr
 size : w0.heap.size + 2 ≤ wr.heap.size
 a0 : wr.heap[w0.heap.size]? = some (.cells #[sv, cv] 29 (0, 0))
 res : wr.heap[w0.heap.size + 1]? = some (.cells #[.slice none 0 0, .slice none 0 0] 29 (0, 0))
theorem OtB.draw {B M M' : Nat} {w0 wr w' : World} {sv cv : Value} (h : OtB B M w0 wr sv cv) (hd : Drawn B M' wr w') : OtB B M' w0 w' sv cv := by
 have hl := h.lt
 exact ⟨hl, h.drawn.trans hd, Nat.le_trans h.size hd.1.size, kH h.a0 hd.1 (by simp; omega), kH h.res hd.1 (by simp; omega)⟩
theorem OtB.own {B M : Nat} {w0 wr w' : World} {sv cv : Value} {r : Option Nat} (h : OtB B M w0 wr sv cv) (hg : wr.grownBy w' r) (hr : ∀ k, r = some k → w0.heap.size + 2 ≤ k) : OtB B M w0 w' sv cv := by
 have hl := h.lt
 exact ⟨hl, h.drawn.own hg hl (fun k hk => by have := hr k hk; omega), Nat.le_trans h.size hg.size, kH h.a0 hg (fun e => by have := hr _ e; omega), kH h.res hg (fun e => by have := hr _ e; omega)⟩
theorem OtB.start {B m : Nat} {w : World} {sv cv : Value} (hs : StreamAt w B m) : OtB B m w ((w.alloc (.cells #[sv, cv] 29)).alloc (.cells #[.slice none 0 0, .slice none 0 0] 29)) sv cv := by
 have h1 := heap_alloc_new (w.alloc (.cells #[sv, cv] 29)) (.cells #[.slice none 0 0, .slice none 0 0] 29)
 rw [World.size_alloc] at h1
 have hg : w.grownBy ((w.alloc (.cells #[sv, cv] 29)).alloc (.cells #[.slice none 0 0, .slice none 0 0] 29)) none := gT (gA _ _ _) (gA _ _ _)
 exact ⟨hs.lt, ⟨grownBy_any _ hg, hs.kept hg⟩, by simp, kH (heap_alloc_new w _) (gA _ _ none) (by simp), h1⟩
theorem OtB.more {B M M' : Nat} {w0 wr : World} {sv cv : Value} (h : OtB B M w0 wr sv cv) (hm : M ≤ M') : OtB B M' w0 wr sv cv := ⟨h.lt, h.drawn.more hm, h.size, h.a0, h.res⟩
theorem SetStay.over {B X : Nat} {w w' : World} {sv cv : Value} {S : List SideD × List CondD} (h : SetStay B w sv cv S) (hX : SlBox w X) (_hXB : X ≠ B) (hXs : X < w.heap.size) (hg : w.grownBy w' (some X)) : SetStay B w' sv cv S := fun w3 h3 => by
 obtain ⟨o, ho⟩ : ∃ o, w.heap[X]? = some o := ⟨_, Array.getElem?_eq_getElem hXs⟩
 have hX3 : X < w3.heap.size := Nat.lt_of_lt_of_le hXs (Nat.le_trans hg.size h3.size)
 have hgr : w.grownBy { w3 with heap := w3.heap.setIfInBounds X o } (some B) := by
  refine ⟨h3.os.trans hg.os, h3.tape.trans hg.tape, h3.output.trans hg.output, ?_, fun i hi hne => ?_⟩
  · show w.heap.size ≤ (w3.heap.setIfInBounds X o).size
    rw [Array.size_setIfInBounds]
    exact Nat.le_trans hg.size h3.size
  · show (w3.heap.setIfInBounds X o)[i]? = _
    by_cases e : X = i
    · subst e
      rw [Array.getElem?_setIfInBounds_self_of_lt hX3, ho]
    · rw [Array.getElem?_setIfInBounds_ne e, h3.block i (Nat.lt_of_lt_of_le hi hg.size) hne]
      exact hg.block i hi (fun e2 => e (Option.some.inj e2).symm)
 refine (h _ hgr).over (X := X) (fun k v hv => ?_) ?_
 · refine hX k v ?_
   rw [← hv]
   refine (World.cell?_of_block ?_).symm
   show (w3.heap.setIfInBounds X o)[X]? = w.heap[X]?
   rw [Array.getElem?_setIfInBounds_self_of_lt hX3, ho]
 · refine ⟨rfl, rfl, rfl, ?_, fun i hi hne => ?_⟩
   · show (w3.heap.setIfInBounds X o).size ≤ w3.heap.size
     rw [Array.size_setIfInBounds]
     exact Nat.le_refl _
   · show w3.heap[i]? = (w3.heap.setIfInBounds X o)[i]?
     rw [Array.getElem?_setIfInBounds_ne (fun e => hne (by rw [e]))]
def wideSide (s : SideD) : Prop := s.1.size ≤ maxLen ∧ (-9223372036854775808 ≤ s.2.1 ∧ s.2.1 ≤ 9223372036854775807) ∧ (-9223372036854775808 ≤ s.2.2 ∧ s.2.2 ≤ 9223372036854775807)
theorem sides_of_row {w : World} {P : Nat} {v : Value} {l : List SideD} (h : SideRw w P v l) (hl : l.length ≤ 1000000) (hg : ∀ s ∈ l, wideSide s) : SidesAt w v l := by
 obtain ⟨p, cap, rfl⟩ := own_form h
 have hcap : l.length ≤ cap := by
  cases p with
  | none =>
    rcases h.2 with ⟨hv, hz⟩ | ⟨g, c, cur, hv, _⟩
    · obtain ⟨_, h2, _⟩ := Value.slice.inj hv
      omega
    · cases (Value.slice.inj hv).1
  | some a =>
    rcases h.2 with ⟨hv, hz⟩ | ⟨g, c, cur, hv, _, _, hc, _⟩
    · cases (Value.slice.inj hv).1
    · obtain ⟨_, _, rfl⟩ := Value.slice.inj hv
      exact hc
 refine ⟨p, cap, rfl, ⟨hl, hcap⟩, fun j s hj => ?_⟩
 obtain ⟨g, rfl, c0, c1, c2⟩ := h.cells hj
 obtain ⟨g1, g2, g3⟩ := hg s (List.mem_of_getElem? hj)
 exact ⟨g, 0, rfl, g1, g2, g3, by simpa using c0, by simpa using c1, by simpa using c2⟩
structure OtL (B M X P : Nat) (bo : Option Nat) (w0 w2 wr : World) (sv cv pv kv : Value) (l : List SideD) (ks : List (CondD × Value)) : Prop where
 base : OtB B M w0 wr sv cv
 box : wr.heap[X]? = some (.cells #[pv, kv] 29 (0, 0))
 row : SideRw wr (X + 1) pv l
 good : ∀ s ∈ l, wideSide s
 keep : ZRow wr P kv ks
 two : Grown2 w2 wr B bo
 old : ∀ g, kv.ownBlock = some g → g < X
 lt0 : w0.heap.size + 2 ≤ P
 lt1 : w0.heap.size + 2 ≤ X
 lt2 : w2.heap.size ≤ X
theorem OtL.draw {B M M' X P : Nat} {bo : Option Nat} {w0 w2 wr w' : World} {sv cv pv kv : Value} {l : List SideD} {ks : List (CondD × Value)} (h : OtL B M X P bo w0 w2 wr sv cv pv kv l ks) (hd : Drawn B M' wr w') : OtL B M' X P bo w0 w2 w' sv cv pv kv l ks := by
 have hB := h.base.lt
 have h0 := h.lt0
 have h1 := h.lt1
 exact ⟨h.base.draw hd, kH h.box hd.1 (by simp; omega), owns_drawn h.row hd (by omega), h.good, owns_drawn h.keep hd (by omega), h.two.trans (.ofB hd.1), h.old, h0, h1, h.lt2⟩
theorem OtL.grown {B M X P : Nat} {bo : Option Nat} {w0 w2 wr w' : World} {sv cv pv kv : Value} {l : List SideD} {ks : List (CondD × Value)} (h : OtL B M X P bo w0 w2 wr sv cv pv kv l ks) (hg : wr.grownBy w' none) : OtL B M X P bo w0 w2 w' sv cv pv kv l ks :=
 ⟨h.base.own hg (by simp), kH h.box hg (by simp), h.row.kept hg, h.good, h.keep.kept hg, h.two.trans (.of (grownBy_any _ hg)), h.old, h.lt0, h.lt1, h.lt2⟩
theorem OtL.more {B M N X P : Nat} {bo : Option Nat} {w0 w2 wr : World} {sv cv pv kv : Value} {l : List SideD} {ks : List (CondD × Value)} (h : OtL B M X P bo w0 w2 wr sv cv pv kv l ks) (hm : M ≤ N) : OtL B N X P bo w0 w2 wr sv cv pv kv l ks :=
 ⟨h.base.more hm, h.box, h.row, h.good, h.keep, h.two, h.old, h.lt0, h.lt1, h.lt2⟩
theorem OtL.size {B M X P : Nat} {bo : Option Nat} {w0 w2 wr : World} {sv cv pv kv : Value} {l : List SideD} {ks : List (CondD × Value)} (h : OtL B M X P bo w0 w2 wr sv cv pv kv l ks) : X < wr.heap.size := (Array.getElem?_eq_some_iff.1 h.box).1
theorem OtL.turn {B M X P Y : Nat} {bo : Option Nat} {w0 w2 wr w' : World} {sv cv pv kv : Value} {l : List SideD} {ks : List (CondD × Value)} (h : OtL B M X P bo w0 w2 wr sv cv pv kv l ks) (hg : wr.grownBy w' (some Y)) (hY : X < Y) (hne : pv.ownBlock ≠ some Y) : OtL B M X P bo w0 w2 w' sv cv pv kv l ks := by
 have h1 := h.lt1
 have h2 := h.lt2
 refine ⟨h.base.own hg (fun k hk => by cases hk; omega), kH h.box hg (by simp; omega), World.ownsRow.kept h.row hg (by
  cases hb : pv.ownBlock with
  | none => exact .inl rfl
  | some k => exact .inr (fun e => hne (hb.trans e))), h.good, World.ownsRow.kept h.keep hg (by
  cases hb : kv.ownBlock with
  | none => exact .inl rfl
  | some k => exact .inr (fun e => by have := h.old k hb; have := Option.some.inj e; omega)), ?_, h.old, h.lt0, h1, h2⟩
 exact ⟨Nat.le_trans h.two.size hg.size, fun k hk h3 h4 => (hg.block k (Nat.lt_of_lt_of_le hk h.two.size) (fun e => by have := Option.some.inj e; omega)).trans (h.two.block k hk h3 h4)⟩
theorem OtL.push {B M X P g cap : Nat} {bo : Option Nat} {w0 w2 wr w4 : World} {sv cv pv kv : Value} {l : List SideD} {ks : List (CondD × Value)} {o : Obj} {s : SideD} (h : OtL B M X P bo w0 w2 wr sv cv pv kv l ks) (k2 : (wr.alloc o).grownBy w4 pv.ownBlock) (hs : wideSide s)
  (row : w4.ownsRow (X + 1) 63 3 (.slice (some ⟨g, 0, none⟩) (l.length + 1) cap) (l.length + 1) (l.flatMap sideCells ++ sideCells s)) :
  OtL B M X P bo w0 w2 (w4.setCell ⟨X, 0, none⟩ (.slice (some ⟨g, 0, none⟩) (l.length + 1) cap)) sv cv (.slice (some ⟨g, 0, none⟩) (l.length + 1) cap) kv (l ++ [s]) ks := by
 have h1 := h.lt1
 have h2 := h.lt2
 have hX := h.size
 have hob : ∀ k, pv.ownBlock = some k → X + 1 ≤ k := fun k hk => (World.ownsRow.lt h.row k hk).1
 have k12 : wr.grownBy w4 pv.ownBlock := gT (gA wr o pv.ownBlock) k2
 have g2 := gS w4 X 0 (.slice (some ⟨g, 0, none⟩) (l.length + 1) cap)
 have hkp : ZRow w4 P kv ks := World.ownsRow.kept h.keep k12 (by
  cases hb : kv.ownBlock with
  | none => exact .inl rfl
  | some k => exact .inr (fun e => by have := h.old k hb; have := hob k e.symm; omega))
 refine ⟨(h.base.own k12 (fun k hk => by have := hob k hk; omega)).own g2 (fun k hk => by cases hk; omega), ?_, ?_, fun t ht => ?_, World.ownsRow.kept hkp g2 (by
  cases hb : kv.ownBlock with
  | none => exact .inl rfl
  | some k => exact .inr (fun e => by have := h.old k hb; have := Option.some.inj e; omega)), ?_, h.old, h.lt0, h1, h2⟩
 · show (w4.heap.modify X _)[X]? = _
   rw [Array.getElem?_modify, if_pos rfl, kH h.box k12 (fun e => by have := hob _ e; omega)]
   simp
 · unfold SideRw
   have hr := owns_under row g2 (fun k hk => by cases hk; omega)
   simpa using hr
 · rcases List.mem_append.1 ht with ht | ht
   · exact h.good t ht
   · rw [List.mem_singleton.1 ht]
     exact hs
 · refine ⟨Nat.le_trans h.two.size (Nat.le_trans k12.size g2.size), fun k hk h3 h4 => ?_⟩
   rw [g2.block k (by have := h.two.size; have := k12.size; omega) (fun e => by have := Option.some.inj e; omega), k12.block k (Nat.lt_of_lt_of_le hk h.two.size) (fun e => by have := hob k e.symm; omega)]
   exact h.two.block k hk h3 h4
set_option maxRecDepth 100000 in
set_option maxHeartbeats 16000000 in
theorem other_any (B m : Nat) (A : List SideD × List CondD) (sv cv : Value) (w : World) (hs : StreamAt w B m) (hm : m ≤ 100000) (hA : SetStay B w sv cv A) (hl : A.1.length ≤ 100) (hl2 : A.2.length ≤ 40000) :
  Calls Tryz.prog 5 #[.pointer (some ⟨B, 0, none⟩), .agg #[sv, cv]] w (OtherOf B (m + 5000) w) := by
 have hA0 := hA w (gR _ _)
 obtain ⟨ps, scap, rfl, _, _⟩ := id hA0.1
 obtain ⟨pc, ccap, rfl, _, _⟩ := id hA0.2
 have HA := uH hA
 have HT := uH (OtB.start (sv := .slice ps A.1.length scap) (cv := .slice pc A.2.length ccap) hs)
 clear hs hA hA0
 go_enter Tryz.func5, Tryz.ntmps5
 go_upto_region 1 with fail
 generalize (w.alloc (.cells #[.slice ps A.1.length scap, .slice pc A.2.length ccap] 29)).alloc (.cells #[.slice none 0 0, .slice none 0 0] 29) = w1 at *
 go_upto_region 2 with (go_at_call 4; go_must (refine (aSet_any B m _ HT.out.drawn.2 (by omega)).mono ?_; rintro e w2 ⟨bsv, bcv, S, rfl, hst, hsl, hd⟩; obtain ⟨hset2, hsl2, hown2⟩ := hst w2 (gR _ _); obtain ⟨pbs, bscap, rfl, _, _⟩ := id hset2.1; obtain ⟨pbc, bccap, rfl, _, _⟩ := id hset2.2; have HOwn := uH hown2; clear hset2 hown2; have HSt := uH hst; have HT2 := uH (HT.out.draw hd); have hz1 := HT.out.size; have hz2 := hd.1.size; clear hst hd))
 have HGx := uH (gA w2 (.cells #[.slice pbs S.1.length bscap, .slice pbc S.2.length bccap] 29) none)
 have HBx := uH (heap_alloc_new w2 (.cells #[.slice pbs S.1.length bscap, .slice pbc S.2.length bccap] 29))
 have HTx := uH (HT2.out.own (gA w2 (.cells #[.slice pbs S.1.length bscap, .slice pbc S.2.length bccap] 29) none) (by simp))
 generalize w2.alloc (.cells #[.slice pbs S.1.length bscap, .slice pbc S.2.length bccap] 29) = wx at *
 have hx2 : w2.heap.size < wx.heap.size := (Array.getElem?_eq_some_iff.1 HBx.out).1
 go_upto_if 12 with (go_at_call 30; go_must (refine (flip_any B (m + 1000) 8 _ HTx.out.drawn.2 (by omega) (by omega) (by omega)).mono ?_; rintro e w3 ⟨bF, rfl, hd⟩; have HT3 := uH (HTx.out.draw hd); have HD3 := uH hd; have hB3 := HTx.out.lt; have hbx3 := kH HBx.out hd.1 (by simp; omega); have HBx3 := uH hbx3; have hz3 := hd.1.size; clear hd hbx3))
 obtain ⟨b0, b1, _⟩ := cO HBx3.out
 obtain ⟨r0, r1, rf⟩ := cO HT3.out.res
 cases bF
 · obtain ⟨tvs, htl, hrow, hterm⟩ := HOwn.out
   obtain ⟨zs, hzs⟩ : ∃ zs, zs = S.2.zip tvs := ⟨_, rfl⟩
   have hzl : zs.length = S.2.length := by rw [hzs, List.length_zip, htl, Nat.min_self]
   have hzr : ZRow w2 w1.heap.size (.slice pbc S.2.length bccap) zs := by
    unfold ZRow
    rw [hzl, hzs]
    exact hrow
   have HZr : Hid (ZRow w3 w1.heap.size (.slice pbc S.2.length bccap) zs) := owns_drawn (hzr.kept HGx.out) HD3.out (by omega)
   have HTer : Hid (∀ W : World, Grown2 w2 W B (Value.slice pbc S.2.length bccap).ownBlock → ZTerms W zs) := fun W hW z hz => by
    rw [hzs] at hz
    obtain ⟨j, hj⟩ := List.mem_iff_getElem?.1 hz
    rw [List.getElem?_zip_eq_some] at hj
    obtain ⟨b, t⟩ := hterm j z.1 z.2 hj.1 hj.2
    exact ⟨t W hW, b⟩
   have HAb : Hid (AskBox w3 w.heap.size (.slice ps A.1.length scap) (.slice pc A.2.length ccap) A.1) := by
    obtain ⟨u0, u1, _⟩ := cO HT3.out.a0
    exact ⟨u0, u1, fun w4 h4 => (HA.out w4 (gT HT3.out.drawn.1 (grownBy_any _ h4))).1⟩
   have hob : ∀ k, (Value.slice pbc S.2.length bccap).ownBlock = some k → w1.heap.size ≤ k := fun k hk => (hrow.lt k hk).1
   have hg23 : Grown2 w2 w3 B (Value.slice pbc S.2.length bccap).ownBlock := (Grown2.of (grownBy_any _ HGx.out)).trans (.ofB HD3.out.1)
   have HG23 := uH hg23
   have HOb := uH hob
   have hzl2 : zs.length ≤ 40000 := by omega
   have HDel := uH (deleteForms_any A.1 (.slice ps A.1.length scap) (.slice pc A.2.length ccap) pbc S.2.length bccap w1.heap.size w.heap.size zs w3 (by omega) HZr.out HAb.out (by omega) (fun w4 h4 => (HA.out w4 (World.grownBy.andThen HT3.out.drawn.1 h4 (fun j hj => .inl (by have := hob j hj; omega)))).1) (fun w4 h4 => HTer.out w4 (hg23.trans (.of h4))))
   clear htl hrow hterm hzs hzl hzr hg23 hob
   go_upto_region 5 with (go_at_call 34; go_must (refine HDel.out.mono ?_; rintro e w4 ⟨p4, cap4, rfl, hrow4, hg4⟩; have HR4 := uH hrow4; have HG4 := uH hg4; have hkv4 := (fun g hg => (hrow4.lt g hg).2); have HKv4 := uH hkv4; have hz4 := hg4.size; clear hrow4 hg4 hkv4))
   have HTk : Hid (∀ W : World, Grown2 w2 W B (Value.slice pbc S.2.length bccap).ownBlock → ZTerms W (keepZ A.1 zs)) := fun W hW z hz => HTer.out W hW z (List.mem_filter.1 hz).1
   have hkl : (keepZ A.1 zs).length ≤ 40000 := Nat.le_trans (List.length_filter_le _ _) hzl2
   have hL0 : OtL B (m + 1000 + 1) w4.heap.size w1.heap.size (Value.slice pbc S.2.length bccap).ownBlock w w2 (w4.alloc (.cells #[.slice none 0 0, .slice p4 (keepZ A.1 zs).length cap4] 29)) (.slice ps A.1.length scap) (.slice pc A.2.length ccap) (.slice none 0 0) (.slice p4 (keepZ A.1 zs).length cap4) [] (keepZ A.1 zs) :=
    ⟨(HT3.out.own HG4.out (fun k hk => by have := HOb.out k hk; omega)).own (gA _ _ none) (by simp), heap_alloc_new _ _, World.ownsRow_nil _ _ _ _, fun s hs => (by cases hs), HR4.out.kept (gA _ _ _), (HG23.out.trans (.of HG4.out)).trans (.of (gA _ _ _)), HKv4.out, by omega, by omega, by omega⟩
   have HL0 := uH hL0
   clear hL0 HDel HZr HAb
   generalize keepZ A.1 zs = ks at *
   generalize w4.alloc (.cells #[.slice none 0 0, .slice p4 ks.length cap4] 29) = wy at *
   obtain ⟨u0, u1, _⟩ := cO HL0.out.base.a0
   go_wp2_with fail
   go_loopw [22] (fun i wr => ∃ (k : Nat) (pv : Value) (l : List SideD), k ≤ A.1.length ∧ i = .int .i64 k ∧ l.length ≤ k ∧ Hid (OtL B (m + 1001 + 2 * k) w4.heap.size w1.heap.size (Value.slice pbc S.2.length bccap).ownBlock w w2 wr (.slice ps A.1.length scap) (.slice pc A.2.length ccap) pv (.slice p4 ks.length cap4) l ks)) (fun i _ => A.1.length - (intOf i).toNat)
   case atStart => exact ⟨0, _, [], Nat.zero_le _, rfl, Nat.zero_le _, HL0.out⟩
   case round =>
    obtain ⟨k, pv, l, hk, rfl, hll, HL⟩ := hrel
    by_cases hlt : k < A.1.length
    · have h0 := List.getElem?_eq_getElem hlt
      obtain ⟨p5, c5, hp5, _, hsd⟩ := (HA.out wr HL.out.base.drawn.1).1
      obtain ⟨rfl, _, rfl⟩ := Value.slice.inj hp5
      obtain ⟨b5, o5, rfl, n1, n2, n3, c0, c1, c2⟩ := hsd k _ h0
      generalize A.1[k] = sd at *
      obtain ⟨nm, lo, hi⟩ := sd
      simp only at n1 n2 n3 c0 c1 c2
      have hI1 : (k : Int) < (A.1.length : Int) := by omega
      have hzr := HL.out.size
      obtain ⟨pl, lcap, rfl⟩ := own_form HL.out.row
      clear h0 hp5 hsd
      go_upto_region 8 with fail
      have HLb := uH (HL.out.grown (gA wr (.cells #[.string nm, .int .i64 lo, .int .i64 hi] 63) none))
      have HBb := uH (heap_alloc_new wr (.cells #[.string nm, .int .i64 lo, .int .i64 hi] 63))
      have hpl : (Value.slice pl l.length lcap).ownBlock ≠ some wr.heap.size := fun e => by have := (HL.out.row.lt _ e).2; omega
      generalize wr.alloc (.cells #[.string nm, .int .i64 lo, .int .i64 hi] 63) = wb at *
      clear c0 c1 c2
      go_upto_region 8 with fail
      obtain ⟨a0, a1, a2⟩ := cell3 HBb.out
      have HDa := uH (HLb.out.grown (gD wb none))
      have HSa : Hid ((fun W : World => W.cell? ⟨wr.heap.size, 1, none⟩ = some (.int .i64 lo)) wb.drew) := a1
      refine region_late (n := 6) (S := fun W : World => W.cell? ⟨wr.heap.size, 1, none⟩ = some (.int .i64 lo)) (by kernel_rfl) ⟨by kernel_rfl, by kernel_rfl, by kernel_rfl, by decide⟩ ?_
      refine late_take (i := 0) (v := ?va_0) ⟨by kernel_rfl, by kernel_rfl, by kernel_rfl, by decide⟩ rfl (by decide +kernel) (by decide +kernel) (by decide +kernel) (fun _ _ _ h => h) (Or.inl ⟨by rfl, ?ha_0⟩) HSa.out ?ra_0
      case ha_0 =>
       intro W hW
       go_simp
       with_reducible rfl
      go_frame
      refine late_take (i := 1) (v := ?va_1) ⟨by kernel_rfl, by kernel_rfl, by kernel_rfl, by decide⟩ rfl (by decide +kernel) (by decide +kernel) (by decide +kernel) (fun _ _ _ h => h) (Or.inl ⟨by rfl, ?ha_1⟩) HSa.out ?ra_1
      case ha_1 =>
       intro W hW
       go_simp
       with_reducible rfl
      go_frame
      refine late_take (i := 2) (v := ?va_2) ⟨by kernel_rfl, by kernel_rfl, by kernel_rfl, by decide⟩ rfl (by decide +kernel) (by decide +kernel) (by decide +kernel) (fun _ _ _ h => h) (Or.inl ⟨by rfl, ?ha_2⟩) HSa.out ?ra_2
      case ha_2 =>
       intro W hW
       go_simp
       with_reducible rfl
      go_frame
      refine late_one (i := 3) rfl (by kernel_rfl) (by kernel_rfl) (fun K hK => ?_)
      have HK := uH hK
      clear hK
      go_simp
      refine HK.out _ _ ((gA _ _ none).cell HSa.out (by simp)) ?_
      clear HK
      refine late_one (i := 4) rfl (by kernel_rfl) (by kernel_rfl) (fun K hK => ?_)
      have HK := uH hK
      clear hK
      refine op_enter (by rfl) 29 #[.pointer (some ⟨B, 0, none⟩), .slice (some ⟨wb.drew.heap.size, 0, none⟩) 4 4] (by kernel_rfl) ((pick_lit' B (m + 1001 + 2 * k) wb.drew.heap.size [0, 0, 1, -1] _ wb.drew rfl HDa.out.base.drawn.2 (by omega) (by simp) (by simp)).mono ?_)
      rintro e wa ⟨za, _, rfl, hd⟩
      have HLa := uH (HDa.out.draw hd)
      have HBa := uH (kH (show wb.drew.heap[wr.heap.size]? = _ from HBb.out) hd.1 (by simp; omega))
      have HTa : Hid ((fun W : World => W.cell? ⟨wr.heap.size, 1, none⟩ = some (.int .i64 lo)) wa) := hd.1.cell HSa.out (by simp; omega)
      refine ⟨_, rfl, HK.out _ _ HTa.out ?_⟩
      clear HK hd
      go_frame
      obtain ⟨lo2, hwa, hra⟩ : ∃ q, IntKind.i64.wrap (lo + za) = q ∧ (-9223372036854775808 ≤ q ∧ q ≤ 9223372036854775807) := ⟨_, rfl, wrap_rangeK _⟩
      refine late_take (i := 5) (v := ?va_5) ⟨by kernel_rfl, by kernel_rfl, by kernel_rfl, by decide⟩ rfl (by decide +kernel) (by decide +kernel) (by decide +kernel) (fun _ _ _ h => h) (Or.inl ⟨by rfl, ?ha_5⟩) HTa.out ?ra_5
      case ha_5 =>
       intro W hW
       go_simp
       with_reducible rfl
      go_frame
      refine late_done (by decide +kernel) ?_
      simp only [List.drop_succ_cons, List.drop_zero]
      obtain ⟨a0, a1, a2, af⟩ := cell3f HBa.out
      go_upto_region 9 with fail
      have HLs := uH (HLa.out.turn (gS wa wr.heap.size 1 (.int .i64 lo2)) hzr hpl)
      have HBs : Hid ((wa.setCell ⟨wr.heap.size, 1, none⟩ (.int .i64 lo2)).heap[wr.heap.size]? = some (.cells #[.string nm, .int .i64 lo2, .int .i64 hi] 63 (0, 0))) := by
       show (wa.heap.modify wr.heap.size _)[wr.heap.size]? = _
       rw [Array.getElem?_modify, if_pos rfl, HBa.out]
       simp
      clear a0 a1 a2 af
      generalize wa.setCell ⟨wr.heap.size, 1, none⟩ (.int .i64 lo2) = ws at *
      obtain ⟨b0x, b1x, b2x⟩ := cell3 HBs.out
      have HDb := uH (HLs.out.grown (gD ws none))
      have HSb : Hid ((fun W : World => W.cell? ⟨wr.heap.size, 2, none⟩ = some (.int .i64 hi)) ws.drew) := b2x
      refine region_late (n := 6) (S := fun W : World => W.cell? ⟨wr.heap.size, 2, none⟩ = some (.int .i64 hi)) (by kernel_rfl) ⟨by kernel_rfl, by kernel_rfl, by kernel_rfl, by decide⟩ ?_
      refine late_take (i := 0) (v := ?vb_0) ⟨by kernel_rfl, by kernel_rfl, by kernel_rfl, by decide⟩ rfl (by decide +kernel) (by decide +kernel) (by decide +kernel) (fun _ _ _ h => h) (Or.inl ⟨by rfl, ?hb_0⟩) HSb.out ?rb_0
      case hb_0 =>
       intro W hW
       go_simp
       with_reducible rfl
      go_frame
      refine late_take (i := 1) (v := ?vb_1) ⟨by kernel_rfl, by kernel_rfl, by kernel_rfl, by decide⟩ rfl (by decide +kernel) (by decide +kernel) (by decide +kernel) (fun _ _ _ h => h) (Or.inl ⟨by rfl, ?hb_1⟩) HSb.out ?rb_1
      case hb_1 =>
       intro W hW
       go_simp
       with_reducible rfl
      go_frame
      refine late_take (i := 2) (v := ?vb_2) ⟨by kernel_rfl, by kernel_rfl, by kernel_rfl, by decide⟩ rfl (by decide +kernel) (by decide +kernel) (by decide +kernel) (fun _ _ _ h => h) (Or.inl ⟨by rfl, ?hb_2⟩) HSb.out ?rb_2
      case hb_2 =>
       intro W hW
       go_simp
       with_reducible rfl
      go_frame
      refine late_one (i := 3) rfl (by kernel_rfl) (by kernel_rfl) (fun K hK => ?_)
      have HK := uH hK
      clear hK
      go_simp
      refine HK.out _ _ ((gA _ _ none).cell HSb.out (by simp)) ?_
      clear HK
      refine late_one (i := 4) rfl (by kernel_rfl) (by kernel_rfl) (fun K hK => ?_)
      have HK := uH hK
      clear hK
      refine op_enter (by rfl) 29 #[.pointer (some ⟨B, 0, none⟩), .slice (some ⟨ws.drew.heap.size, 0, none⟩) 4 4] (by kernel_rfl) ((pick_lit' B (m + 1001 + 2 * k + 1) ws.drew.heap.size [0, 0, 1, -1] _ ws.drew rfl HDb.out.base.drawn.2 (by omega) (by simp) (by simp)).mono ?_)
      rintro e wc ⟨zb, _, rfl, hd⟩
      have HLc := uH (HDb.out.draw hd)
      have HBc := uH (kH (show ws.drew.heap[wr.heap.size]? = _ from HBs.out) hd.1 (by simp; omega))
      have HTc : Hid ((fun W : World => W.cell? ⟨wr.heap.size, 2, none⟩ = some (.int .i64 hi)) wc) := hd.1.cell HSb.out (by simp; omega)
      refine ⟨_, rfl, HK.out _ _ HTc.out ?_⟩
      clear HK hd
      go_frame
      obtain ⟨hi2, hwb, hrb⟩ : ∃ q, IntKind.i64.wrap (hi + zb) = q ∧ (-9223372036854775808 ≤ q ∧ q ≤ 9223372036854775807) := ⟨_, rfl, wrap_rangeK _⟩
      refine late_take (i := 5) (v := ?vb_5) ⟨by kernel_rfl, by kernel_rfl, by kernel_rfl, by decide⟩ rfl (by decide +kernel) (by decide +kernel) (by decide +kernel) (fun _ _ _ h => h) (Or.inl ⟨by rfl, ?hb_5⟩) HTc.out ?rb_5
      case hb_5 =>
       intro W hW
       go_simp
       with_reducible rfl
      go_frame
      refine late_done (by decide +kernel) ?_
      simp only [List.drop_succ_cons, List.drop_zero]
      obtain ⟨b0x, b1x, b2x, bfx⟩ := cell3f HBc.out
      go_upto_region 10 with fail
      have HLt := uH (HLc.out.turn (gS wc wr.heap.size 2 (.int .i64 hi2)) hzr hpl)
      have hBt : (wc.setCell ⟨wr.heap.size, 2, none⟩ (.int .i64 hi2)).heap[wr.heap.size]? = some (.cells #[.string nm, .int .i64 lo2, .int .i64 hi2] 63 (0, 0)) := by
       show (wc.heap.modify wr.heap.size _)[wr.heap.size]? = _
       rw [Array.getElem?_modify, if_pos rfl, HBc.out]
       simp
      clear b0x b1x b2x bfx
      generalize wc.setCell ⟨wr.heap.size, 2, none⟩ (.int .i64 hi2) = wt at *
      obtain ⟨d0, d1, d2⟩ := cell3 hBt
      obtain ⟨m0, m1, _⟩ := cO HLt.out.box
      obtain ⟨j0, hj0, hy0, hy1, hy2⟩ := info_parts Tryz.infoSide
      have hzt := HLt.out.size
      go_wp2_with (at_builtin; go_must (refine wpList_append_lies _ rfl _ _ 26 rfl (w4.heap.size + 1) 63 j0 (.agg #[.string ByteArray.empty, .int .i64 0, .int .i64 0]) 3 32 Tryz.underlying26 hj0 hy0 hy1 hy2 rfl (by decide) _ l.length (l.flatMap sideCells) rfl (World.ownsRow.alloc HLt.out.row _) ⟨wt.heap.size, 0, none⟩ 1 1 (sideCells (nm, lo2, hi2)) rfl rfl news_at (by simp [sideCells, Value.oneCell']) (by decide) (by unfold maxLen; omega) (by omega) (by simp; omega) (wt.heap.size + 1) (by simp) ?_; intro g' ncap w9 hown9 hgrow9 hat _; have G9 := uH hgrow9; have O9 := uH hown9; have hb9 := kH HLt.out.box (gT (gA _ _ _) hgrow9) (fun e => by have := (HLt.out.row.lt _ e).1; omega); obtain ⟨e0, e1, ef⟩ := cO hb9; clear hown9 hgrow9 hat hb9))
      have hp := HLt.out.push (s := (nm, lo2, hi2)) G9.out ⟨n1, hra, hrb⟩ O9.out
      have hp2 := uH (hp.more (N := m + 1001 + 2 * (k + 1)) (by omega))
      go_roundw
      case rel => exact ⟨k + 1, .slice (some ⟨g', 0, none⟩) (l.length + 1) ncap, l ++ [(nm, lo2, hi2)], by omega, by go_num, by simp; omega, hp2⟩
      case measure => simp [intOf]; omega
    · obtain rfl : k = A.1.length := by omega
      obtain ⟨pl, lcap, rfl⟩ := own_form HL.out.row
      go_upto_if 48 with (go_at_call 30; go_must (refine (flip_any B (m + 1001 + 2 * A.1.length) 3 _ HL.out.base.drawn.2 (by omega) (by omega) (by omega)).mono ?_; rintro e w5 ⟨bG, rfl, hd⟩; have HL5 := uH (HL.out.draw hd); clear hd))
      have HZt := uH (HTk.out w5 HL5.out.two)
      have HCk : Hid (CondsAt w5 (.slice p4 ks.length cap4) (ks.map Prod.fst)) := conds_of_z HL5.out.keep (by omega) HZt.out
      have HSl : Hid (SidesAt w5 (.slice pl l.length lcap) l) := sides_of_row HL5.out.row (by omega) HL5.out.good
      obtain ⟨m0, m1, mf⟩ := cO HL5.out.box
      obtain ⟨r0, r1, rf⟩ := cO HL5.out.base.res
      have hX5 := HL5.out.size
      cases bG
      · go_wp2
        obtain ⟨f1, f2⟩ := two_set HL5.out.base.res (.slice pl l.length lcap) (.slice p4 ks.length cap4)
        have HTf := uH (HL5.out.base.drawn.own f2 hB3 (fun k hk => by cases hk; omega))
        have hst : SetStay B w5 (.slice pl l.length lcap) (.slice p4 ks.length cap4) (l, ks.map Prod.fst) := SetAt.stay ⟨HSl.out, HCk.out⟩ HL5.out.base.drawn.2
        exact bodyPost_ret (results_cell_row rfl _ _ (w.heap.size + 1) _ _ _ _ rfl f1 Tryz.underlying29 rfl Tryz.infoSet2) rfl ⟨_, _, (l, ks.map Prod.fst), rfl, hst.over (slBox_two HL5.out.base.res) (by omega) (by omega) f2, HTf.out.more (by omega)⟩
      · go_upto_region 13 with fail
        obtain ⟨C, hC⟩ : ∃ C, C = A.2 ++ ks.map Prod.fst := ⟨_, rfl⟩
        have HCe := uH hC
        have hCl : C.length ≤ 1000000 := by rw [hC]; simp; omega
        have HDr := uH (HL5.out.grown (gD w5 none))
        have HCd : Hid (CondsAt w5.drew (.slice p4 ks.length cap4) (ks.map Prod.fst)) := HCk.out.kept (gD _ _)
        have HCa : Hid (CondsAt w5.drew (.slice pc A.2.length ccap) A.2) := (HA.out w5.drew HDr.out.base.drawn.1).2
        have hal2 : A.2.length ≤ 2000000 := by omega
        have HSd : Hid ((fun W : World => W.cell? ⟨w.heap.size, 0, none⟩ = some (.slice ps A.1.length scap) ∧ W.cell? ⟨w.heap.size, 1, none⟩ = some (.slice pc A.2.length ccap)) w5.drew) := by
         obtain ⟨a0, a1, _⟩ := cO HDr.out.base.a0
         exact ⟨a0, a1⟩
        have m1d : w5.drew.cell? ⟨w4.heap.size, 1, none⟩ = some (.slice p4 ks.length cap4) := m1
        clear hC
        refine region_late (n := 10) (S := (fun W : World => W.cell? ⟨w.heap.size, 0, none⟩ = some (.slice ps A.1.length scap) ∧ W.cell? ⟨w.heap.size, 1, none⟩ = some (.slice pc A.2.length ccap))) (by kernel_rfl) ⟨by kernel_rfl, by kernel_rfl, by kernel_rfl, by decide⟩ ?_
        refine late_take (i := 0) (v := ?vo_0) ⟨by kernel_rfl, by kernel_rfl, by kernel_rfl, by decide⟩ rfl (by decide +kernel) (by decide +kernel) (by decide +kernel) (fun _ _ _ h => h) (Or.inl ⟨by rfl, ?ho_0⟩) HSd.out ?ro_0
        case ho_0 =>
         intro W hW
         obtain ⟨t0, t1⟩ := hW
         go_simp
         with_reducible rfl
        go_frame
        refine late_take (i := 1) (v := ?vo_1) ⟨by kernel_rfl, by kernel_rfl, by kernel_rfl, by decide⟩ rfl (by decide +kernel) (by decide +kernel) (by decide +kernel) (fun _ _ _ h => h) (Or.inl ⟨by rfl, ?ho_1⟩) HSd.out ?ro_1
        case ho_1 =>
         intro W hW
         obtain ⟨t0, t1⟩ := hW
         go_simp
         with_reducible rfl
        go_frame
        refine late_take (i := 3) (v := ?vo_3) ⟨by kernel_rfl, by kernel_rfl, by kernel_rfl, by decide⟩ rfl (by decide +kernel) (by decide +kernel) (by decide +kernel) (fun _ _ _ h => h) (Or.inl ⟨by rfl, ?ho_3⟩) HSd.out ?ro_3
        case ho_3 =>
         intro W hW
         obtain ⟨t0, t1⟩ := hW
         go_simp
         with_reducible rfl
        go_frame
        refine late_take (i := 6) (v := ?vo_6) ⟨by kernel_rfl, by kernel_rfl, by kernel_rfl, by decide⟩ rfl (by decide +kernel) (by decide +kernel) (by decide +kernel) (fun _ _ _ h => h) (Or.inl ⟨by rfl, ?ho_6⟩) HSd.out ?ro_6
        case ho_6 =>
         intro W hW
         obtain ⟨t0, t1⟩ := hW
         go_simp
         with_reducible rfl
        go_frame
        refine late_take (i := 7) (v := ?vo_7) ⟨by kernel_rfl, by kernel_rfl, by kernel_rfl, by decide⟩ rfl (by decide +kernel) (by decide +kernel) (by decide +kernel) (fun _ _ _ h => h) (Or.inl ⟨by rfl, ?ho_7⟩) HSd.out ?ro_7
        case ho_7 =>
         intro W hW
         obtain ⟨t0, t1⟩ := hW
         go_simp
         with_reducible rfl
        go_frame
        refine late_some 2 [4] (by kernel_rfl) ?_
        refine List.forall_mem_cons.2 ⟨?_, List.forall_mem_cons.2 ⟨?_, List.forall_mem_nil _⟩⟩
        · refine ⟨by decide, _, rfl, fun K hK => ?_⟩
          have HK := uH hK
          clear hK
          refine op_enter (by rfl) 36 #[.slice pc A.2.length ccap] (by kernel_rfl) ((cloneForms_any (.slice pc A.2.length ccap) A.2 _ HCa.out (Nat.le_trans hal2 (by decide))).mono ?_)
          rintro e wq ⟨pq, cq, tvq, rfl, hcw, hgq⟩
          have HCw := uH hcw
          have HGq := uH hgq
          have HSq : Hid ((fun W : World => W.cell? ⟨w.heap.size, 0, none⟩ = some (.slice ps A.1.length scap) ∧ W.cell? ⟨w.heap.size, 1, none⟩ = some (.slice pc A.2.length ccap)) wq) := ⟨hgq.cell HSd.out.1 (by simp), hgq.cell HSd.out.2 (by simp)⟩
          refine ⟨_, rfl, HK.out _ _ HSq.out ?_⟩
          clear HK hcw hgq
          go_frame
          have m1q := HGq.out.cell m1d (by simp)
          refine late_one (i := 4) rfl (by kernel_rfl) (by kernel_rfl) (fun K hK => ?_)
          have HK := uH hK
          clear hK
          go_simp
          refine HK.out _ _ HSq.out ?_
          clear HK
          obtain ⟨v7, w7, us7, hr7, hc7, hg7, _⟩ := conds_append 27 HCw.out HCd.out HGq.out (Nat.le_refl _) HGq.out.size (by simp; omega)
          rw [← HCe.out] at hc7
          obtain ⟨p7, c7, rfl⟩ := own_form hc7.row
          have HR7 := uH hr7
          have HC7 := uH hc7
          have HG7 : Hid (w5.drew.grownBy w7 none) := gO HGq.out hg7 (fun k hk => (HCw.out.row.lt k hk).1)
          have HL7 := uH (HDr.out.grown HG7.out)
          have HS7 : Hid ((fun W : World => W.cell? ⟨w.heap.size, 0, none⟩ = some (.slice ps A.1.length scap) ∧ W.cell? ⟨w.heap.size, 1, none⟩ = some (.slice pc A.2.length ccap)) w7) := ⟨HG7.out.cell HSd.out.1 (by simp), HG7.out.cell HSd.out.2 (by simp)⟩
          clear hr7 hc7 hg7
          refine late_one (i := 5) rfl (by kernel_rfl) (by kernel_rfl) (fun K hK => ?_)
          have HK := uH hK
          clear hK
          refine step_append_run (by rfl) _ _ 27 (by rfl) _ _ (.slice p7 C.length c7) (by rfl) (by rfl) HR7.out (HK.out _ _ HS7.out ?_)
          clear HK
          go_frame
          refine late_take (i := 8) (v := ?voa_8) ⟨by kernel_rfl, by kernel_rfl, by kernel_rfl, by decide⟩ rfl (by decide +kernel) (by decide +kernel) (by decide +kernel) (fun _ _ _ h => h) (Or.inl ⟨by rfl, ?hoa_8⟩) HS7.out ?roa_8
          case hoa_8 =>
           intro W hW
           obtain ⟨t0, t1⟩ := hW
           go_simp
           with_reducible rfl
          go_frame
          obtain ⟨k0, k1, kf⟩ := cO HL7.out.box
          refine late_one (i := 9) rfl (by kernel_rfl) (by kernel_rfl) (fun K hK => ?_)
          have HK := uH hK
          clear hK
          go_simp
          have HS8 : Hid ((fun W : World => W.cell? ⟨w.heap.size, 0, none⟩ = some (.slice ps A.1.length scap) ∧ W.cell? ⟨w.heap.size, 1, none⟩ = some (.slice pc A.2.length ccap)) (w7.setCell ⟨w4.heap.size, 1, none⟩ (.slice p7 C.length c7))) := ⟨(gS _ _ _ _).cell HS7.out.1 (by simp; omega), (gS _ _ _ _).cell HS7.out.2 (by simp; omega)⟩
          refine HK.out _ _ HS8.out ?_
          clear HK
          refine late_done (by decide +kernel) ?_
          simp only [List.drop_succ_cons, List.drop_zero]
          have hb8 : (w7.setCell ⟨w4.heap.size, 1, none⟩ (.slice p7 C.length c7)).heap[w4.heap.size]? = some (.cells #[.slice pl l.length lcap, .slice p7 C.length c7] 29 (0, 0)) := by
           show (w7.heap.modify w4.heap.size _)[w4.heap.size]? = _
           rw [Array.getElem?_modify, if_pos rfl, HL7.out.box]
           simp
          have g8 := gS w7 w4.heap.size 1 (.slice p7 C.length c7)
          have HB8 := uH (HL7.out.base.own g8 (fun k hk => by cases hk; omega))
          have HC8 : Hid (CondsAt (w7.setCell ⟨w4.heap.size, 1, none⟩ (.slice p7 C.length c7)) (.slice p7 C.length c7) C) := (HC7.out.conds hCl).over (slBox_two HL7.out.box) g8
          have HX8 := uH hb8
          clear k0 k1 kf g8 hb8
          generalize w7.setCell ⟨w4.heap.size, 1, none⟩ (.slice p7 C.length c7) = w8 at *
          obtain ⟨k0, k1, kf⟩ := cO HX8.out
          go_upto_region 14 with fail
          have hb9 : (w8.setCell ⟨w4.heap.size, 0, none⟩ (.slice ps A.1.length scap)).heap[w4.heap.size]? = some (.cells #[.slice ps A.1.length scap, .slice p7 C.length c7] 29 (0, 0)) := by
           show (w8.heap.modify w4.heap.size _)[w4.heap.size]? = _
           rw [Array.getElem?_modify, if_pos rfl, HX8.out]
           simp
          have g9 := gS w8 w4.heap.size 0 (.slice ps A.1.length scap)
          have HB9 := uH (HB8.out.own g9 (fun k hk => by cases hk; omega))
          have HC9 : Hid (CondsAt (w8.setCell ⟨w4.heap.size, 0, none⟩ (.slice ps A.1.length scap)) (.slice p7 C.length c7) C) := HC8.out.over (slBox_two HX8.out) g9
          clear k0 k1 kf g9 r0 r1 rf m0 m1 mf
          generalize w8.setCell ⟨w4.heap.size, 0, none⟩ (.slice ps A.1.length scap) = w9 at *
          obtain ⟨m0, m1, mf⟩ := cO hb9
          obtain ⟨r0, r1, rf⟩ := cO HB9.out.res
          have hz9 := HB9.out.size
          go_wp2
          obtain ⟨f1, f2⟩ := two_set HB9.out.res (.slice ps A.1.length scap) (.slice p7 C.length c7)
          have HTf := uH (HB9.out.drawn.own f2 hB3 (fun k hk => by cases hk; omega))
          have hst : SetStay B w9 (.slice ps A.1.length scap) (.slice p7 C.length c7) (A.1, C) := SetAt.stay ⟨(HA.out w9 HB9.out.drawn.1).1, HC9.out⟩ HB9.out.drawn.2
          exact bodyPost_ret (results_cell_row rfl _ _ (w.heap.size + 1) _ _ _ _ rfl f1 Tryz.underlying29 rfl Tryz.infoSet2) rfl ⟨_, _, (A.1, C), rfl, hst.over (slBox_two HB9.out.res) (by omega) (by omega) f2, HTf.out.more (by omega)⟩
        · refine ⟨by decide, _, rfl, fun K hK => ?_⟩
          have HK := uH hK
          clear hK
          unfold OpTo
          go_simp
          refine HK.out _ _ HSd.out ?_
          clear HK
          refine late_one (i := 2) rfl (by kernel_rfl) (by kernel_rfl) (fun K hK => ?_)
          have HK := uH hK
          clear hK
          refine op_enter (by rfl) 36 #[.slice pc A.2.length ccap] (by kernel_rfl) ((cloneForms_any (.slice pc A.2.length ccap) A.2 _ HCa.out (Nat.le_trans hal2 (by decide))).mono ?_)
          rintro e wq ⟨pq, cq, tvq, rfl, hcw, hgq⟩
          have HCw := uH hcw
          have HGq := uH hgq
          have HSq : Hid ((fun W : World => W.cell? ⟨w.heap.size, 0, none⟩ = some (.slice ps A.1.length scap) ∧ W.cell? ⟨w.heap.size, 1, none⟩ = some (.slice pc A.2.length ccap)) wq) := ⟨hgq.cell HSd.out.1 (by simp), hgq.cell HSd.out.2 (by simp)⟩
          refine ⟨_, rfl, HK.out _ _ HSq.out ?_⟩
          clear HK hcw hgq
          go_frame
          obtain ⟨v7, w7, us7, hr7, hc7, hg7, _⟩ := conds_append 27 HCw.out HCd.out HGq.out (Nat.le_refl _) HGq.out.size (by simp; omega)
          rw [← HCe.out] at hc7
          obtain ⟨p7, c7, rfl⟩ := own_form hc7.row
          have HR7 := uH hr7
          have HC7 := uH hc7
          have HG7 : Hid (w5.drew.grownBy w7 none) := gO HGq.out hg7 (fun k hk => (HCw.out.row.lt k hk).1)
          have HL7 := uH (HDr.out.grown HG7.out)
          have HS7 : Hid ((fun W : World => W.cell? ⟨w.heap.size, 0, none⟩ = some (.slice ps A.1.length scap) ∧ W.cell? ⟨w.heap.size, 1, none⟩ = some (.slice pc A.2.length ccap)) w7) := ⟨HG7.out.cell HSd.out.1 (by simp), HG7.out.cell HSd.out.2 (by simp)⟩
          clear hr7 hc7 hg7
          refine late_one (i := 5) rfl (by kernel_rfl) (by kernel_rfl) (fun K hK => ?_)
          have HK := uH hK
          clear hK
          refine step_append_run (by rfl) _ _ 27 (by rfl) _ _ (.slice p7 C.length c7) (by rfl) (by rfl) HR7.out (HK.out _ _ HS7.out ?_)
          clear HK
          go_frame
          refine late_take (i := 8) (v := ?vob_8) ⟨by kernel_rfl, by kernel_rfl, by kernel_rfl, by decide⟩ rfl (by decide +kernel) (by decide +kernel) (by decide +kernel) (fun _ _ _ h => h) (Or.inl ⟨by rfl, ?hob_8⟩) HS7.out ?rob_8
          case hob_8 =>
           intro W hW
           obtain ⟨t0, t1⟩ := hW
           go_simp
           with_reducible rfl
          go_frame
          obtain ⟨k0, k1, kf⟩ := cO HL7.out.box
          refine late_one (i := 9) rfl (by kernel_rfl) (by kernel_rfl) (fun K hK => ?_)
          have HK := uH hK
          clear hK
          go_simp
          have HS8 : Hid ((fun W : World => W.cell? ⟨w.heap.size, 0, none⟩ = some (.slice ps A.1.length scap) ∧ W.cell? ⟨w.heap.size, 1, none⟩ = some (.slice pc A.2.length ccap)) (w7.setCell ⟨w4.heap.size, 1, none⟩ (.slice p7 C.length c7))) := ⟨(gS _ _ _ _).cell HS7.out.1 (by simp; omega), (gS _ _ _ _).cell HS7.out.2 (by simp; omega)⟩
          refine HK.out _ _ HS8.out ?_
          clear HK
          refine late_done (by decide +kernel) ?_
          simp only [List.drop_succ_cons, List.drop_zero]
          have hb8 : (w7.setCell ⟨w4.heap.size, 1, none⟩ (.slice p7 C.length c7)).heap[w4.heap.size]? = some (.cells #[.slice pl l.length lcap, .slice p7 C.length c7] 29 (0, 0)) := by
           show (w7.heap.modify w4.heap.size _)[w4.heap.size]? = _
           rw [Array.getElem?_modify, if_pos rfl, HL7.out.box]
           simp
          have g8 := gS w7 w4.heap.size 1 (.slice p7 C.length c7)
          have HB8 := uH (HL7.out.base.own g8 (fun k hk => by cases hk; omega))
          have HC8 : Hid (CondsAt (w7.setCell ⟨w4.heap.size, 1, none⟩ (.slice p7 C.length c7)) (.slice p7 C.length c7) C) := (HC7.out.conds hCl).over (slBox_two HL7.out.box) g8
          have HX8 := uH hb8
          clear k0 k1 kf g8 hb8
          generalize w7.setCell ⟨w4.heap.size, 1, none⟩ (.slice p7 C.length c7) = w8 at *
          obtain ⟨k0, k1, kf⟩ := cO HX8.out
          go_upto_region 14 with fail
          have hb9 : (w8.setCell ⟨w4.heap.size, 0, none⟩ (.slice ps A.1.length scap)).heap[w4.heap.size]? = some (.cells #[.slice ps A.1.length scap, .slice p7 C.length c7] 29 (0, 0)) := by
           show (w8.heap.modify w4.heap.size _)[w4.heap.size]? = _
           rw [Array.getElem?_modify, if_pos rfl, HX8.out]
           simp
          have g9 := gS w8 w4.heap.size 0 (.slice ps A.1.length scap)
          have HB9 := uH (HB8.out.own g9 (fun k hk => by cases hk; omega))
          have HC9 : Hid (CondsAt (w8.setCell ⟨w4.heap.size, 0, none⟩ (.slice ps A.1.length scap)) (.slice p7 C.length c7) C) := HC8.out.over (slBox_two HX8.out) g9
          clear k0 k1 kf g9 r0 r1 rf m0 m1 mf
          generalize w8.setCell ⟨w4.heap.size, 0, none⟩ (.slice ps A.1.length scap) = w9 at *
          obtain ⟨m0, m1, mf⟩ := cO hb9
          obtain ⟨r0, r1, rf⟩ := cO HB9.out.res
          have hz9 := HB9.out.size
          go_wp2
          obtain ⟨f1, f2⟩ := two_set HB9.out.res (.slice ps A.1.length scap) (.slice p7 C.length c7)
          have HTf := uH (HB9.out.drawn.own f2 hB3 (fun k hk => by cases hk; omega))
          have hst : SetStay B w9 (.slice ps A.1.length scap) (.slice p7 C.length c7) (A.1, C) := SetAt.stay ⟨(HA.out w9 HB9.out.drawn.1).1, HC9.out⟩ HB9.out.drawn.2
          exact bodyPost_ret (results_cell_row rfl _ _ (w.heap.size + 1) _ _ _ _ rfl f1 Tryz.underlying29 rfl Tryz.infoSet2) rfl ⟨_, _, (A.1, C), rfl, hst.over (slBox_two HB9.out.res) (by omega) (by omega) f2, HTf.out.more (by omega)⟩
 · go_wp2
   obtain ⟨f1, f2⟩ := two_set HT3.out.res (.slice pbs S.1.length bscap) (.slice pbc S.2.length bccap)
   have HTf := uH (HT3.out.drawn.own f2 hB3 (fun k hk => by cases hk; omega))
   refine bodyPost_ret (results_cell_row rfl _ _ (w.heap.size + 1) _ _ _ _ rfl f1 Tryz.underlying29 rfl Tryz.infoSet2) rfl ⟨_, _, S, rfl, fun w9 h9 => ?_, HTf.out.more (by omega)⟩
   have hst3 : SetStay B w3 (.slice pbs S.1.length bscap) (.slice pbc S.2.length bccap) S := fun w5 h5 => (HSt.out w5 (gT (gT (grownBy_any _ HGx.out) HD3.out.1) h5)).1
   exact hst3.over (slBox_two HT3.out.res) (by omega) (by omega) f2 w9 h9
end Go.Proofs.YtgeklmigfhhpfaaGreatDoor
