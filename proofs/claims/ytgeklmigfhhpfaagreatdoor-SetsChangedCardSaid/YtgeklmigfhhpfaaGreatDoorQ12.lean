/-
 What ASet leaves. ASet: what is drawn so far, and when all is drawn. The terms of a drawn form: those that are not 0, in order. slices.Clone and slices.DeleteFunc at terms. Lists of numbers in their order; what is left of equal ones. What slices.SortFunc leaves of a row of lists. What a sort of a row of the call's own leaves.
-/
import Derived.IntWalk
import Derived.WalkSpells
import Derived.Deep.Cut
import Derived.Deep.DeepCutAuto
import Derived.Shelf.SlSortCmp.Whole1
import Derived.Shelf.GgSortFunc.RowK
import Derived.Lib.Bytealg
import Derived.Test.YtgeklmigfhhpfaaGreatDoorQ01
import Derived.Test.YtgeklmigfhhpfaaGreatDoorQ07
import Derived.Test.YtgeklmigfhhpfaaGreatDoorQ11
namespace Go.Proofs.YtgeklmigfhhpfaaGreatDoor
open Go.RowKit
end Go.Proofs.YtgeklmigfhhpfaaGreatDoor
namespace Go.Proofs.YtgeklmigfhhpfaaGreatDoor
open Go.RowKit
attribute [local go_sem ↓] Go.wp_at_zero Go.wp_at_succ
def strI : ByteArray := ⟨#[105]⟩
def strJ : ByteArray := ⟨#[106]⟩
def strK : ByteArray := ⟨#[107]⟩
theorem pick_lit' (B m b : Nat) (zs : List Int) (T : TypeId) (w : World) (hb : w.heap.size = b) (hs : StreamAt w B m) (hm : m ≤ 1099511627776) (h1 : 1 ≤ zs.length) (h2 : zs.length ≤ 1000) :
  Calls Tryz.prog 29 #[.pointer (some ⟨B, 0, none⟩), .slice (some ⟨b, 0, none⟩) zs.length zs.length] (w.alloc (.cells (zs.map (Value.int .i64)).toArray T)) (PickOf B (m + 1) zs w) := by
 subst hb
 exact pick_lit B m zs T w hs hm h1 h2
theorem some_lit' (B m b : Nat) (zs : List ByteArray) (T : TypeId) (w : World) (hb : w.heap.size = b) (hs : StreamAt w B m) (hm : m ≤ 1099511627776) (h1 : 1 ≤ zs.length) (h2 : zs.length ≤ 1000) :
  Calls Tryz.prog 6 #[.pointer (some ⟨B, 0, none⟩), .slice (some ⟨b, 0, none⟩) zs.length zs.length] (w.alloc (.cells (zs.map Value.string).toArray T)) (SomeOf B (m + 1) zs w) := by
 subst hb
 exact some_lit B m zs T w hs hm h1 h2
theorem gD (w : World) (r : Option Nat) : w.grownBy w.drew r := ⟨rfl, rfl, rfl, Nat.le_refl _, fun _ _ _ => rfl⟩
theorem pick_drew (B m b : Nat) (zs : List Int) (T : TypeId) (w : World) (hb : w.heap.size = b) (hs : StreamAt w B m) (hm : m ≤ 1099511627776) (h1 : 1 ≤ zs.length) (h2 : zs.length ≤ 1000) :
  Calls Tryz.prog 29 #[.pointer (some ⟨B, 0, none⟩), .slice (some ⟨b, 0, none⟩) zs.length zs.length] (w.alloc (.cells (zs.map (Value.int .i64)).toArray T)).drew (PickOf B (m + 1) zs w) := by
 subst hb
 have hg : w.grownBy (w.alloc (.cells (zs.map (Value.int .i64)).toArray T)).drew none := gT (gA _ _ _) (gD _ _)
 refine (pick_any B m w.heap.size zs.length zs _ (hs.kept hg) hm (by have := hs.lt; omega) h1 h2 fun j hj => ?_).mono ?_
 · show (w.alloc (.cells (zs.map (Value.int .i64)).toArray T)).cell? _ = _
   simp [hj]
 · rintro e w' ⟨z, hz, rfl, hd⟩
   exact ⟨z, hz, rfl, gT (grownBy_any _ hg) hd.1, hd.2⟩
structure LSt (B m : Nat) (w0 w : World) (sv cv : Value) : Prop where
 lt : B < w0.heap.size
 drawn : Drawn B m w0 w
 size : w0.heap.size + 3 ≤ w.heap.size
 box : w.heap[w0.heap.size + 1]? = some (.cells #[sv, cv] 29 (0, 0))
 strs : w.heap[w0.heap.size + 2]? = some (.cells #[.string strI, .string strJ, .string strK] 9 (0, 0))
 res : w.heap[w0.heap.size]? = some (.cells #[.slice none 0 0, .slice none 0 0] 29 (0, 0))
variable {B m m' : Nat} {w0 w w' : World} {sv cv : Value}
theorem LSt.draw (h : LSt B m w0 w sv cv) (hd : Drawn B m' w w') : LSt B m' w0 w' sv cv := by
 have hl := h.lt
 have hs := h.size
 exact ⟨hl, h.drawn.trans hd, Nat.le_trans hs hd.1.size, (hd.1.block _ (by omega) (by simp; omega)).trans h.box, (hd.1.block _ (by omega) (by simp; omega)).trans h.strs, (hd.1.block _ (by omega) (by simp; omega)).trans h.res⟩
theorem LSt.own {r : Option Nat} (h : LSt B m w0 w sv cv) (hg : w.grownBy w' r) (hr : ∀ k, r = some k → w0.heap.size + 3 ≤ k) : LSt B m w0 w' sv cv := by
 have hl := h.lt
 have hs := h.size
 refine ⟨hl, h.drawn.own hg hl (fun k hk => by have := hr k hk; omega), Nat.le_trans hs hg.size, (hg.block _ (by omega) (fun e => ?_)).trans h.box, (hg.block _ (by omega) (fun e => ?_)).trans h.strs, (hg.block _ (by omega) (fun e => ?_)).trans h.res⟩ <;>
 · have := hr _ e.symm
   omega
theorem LSt.more (h : LSt B m w0 w sv cv) (hm : m ≤ m') : LSt B m' w0 w sv cv := ⟨h.lt, h.drawn.more hm, h.size, h.box, h.strs, h.res⟩
theorem LSt.grown (h : LSt B m w0 w sv cv) (hg : w.grownBy w' none) : LSt B m w0 w' sv cv := h.own hg (fun k hk => by cases hk)
theorem LSt.set0 (h : LSt B m w0 w sv cv) (v : Value) : LSt B m w0 (w.setCell ⟨w0.heap.size + 1, 0, none⟩ v) v cv := by
 have hl := h.lt
 have hs := h.size
 have hg : w.grownBy (w.setCell ⟨w0.heap.size + 1, 0, none⟩ v) (some (w0.heap.size + 1)) := gS w _ _ _
 refine ⟨hl, h.drawn.own hg hl (fun k hk => by cases hk; omega), Nat.le_trans hs hg.size, ?_, (hg.block _ (by omega) (by simp)).trans h.strs, (hg.block _ (by omega) (by simp)).trans h.res⟩
 show (w.heap.modify (w0.heap.size + 1) _)[w0.heap.size + 1]? = _
 rw [Array.getElem?_modify, if_pos rfl, h.box]
 simp
theorem LSt.set1 (h : LSt B m w0 w sv cv) (v : Value) : LSt B m w0 (w.setCell ⟨w0.heap.size + 1, 1, none⟩ v) sv v := by
 have hl := h.lt
 have hs := h.size
 have hg : w.grownBy (w.setCell ⟨w0.heap.size + 1, 1, none⟩ v) (some (w0.heap.size + 1)) := gS w _ _ _
 refine ⟨hl, h.drawn.own hg hl (fun k hk => by cases hk; omega), Nat.le_trans hs hg.size, ?_, (hg.block _ (by omega) (by simp)).trans h.strs, (hg.block _ (by omega) (by simp)).trans h.res⟩
 show (w.heap.modify (w0.heap.size + 1) _)[w0.heap.size + 1]? = _
 rw [Array.getElem?_modify, if_pos rfl, h.box]
 simp
theorem Drawn.grown {a b c : World} (h : Drawn B m a b) (k : b.grownBy c none) : Drawn B m a c := ⟨gT h.1 (grownBy_any _ k), h.2.kept k⟩
def startA (w : World) : World :=
 ((w.alloc (.cells #[.slice none 0 0, .slice none 0 0] 29)).alloc (.cells #[.slice none 0 0, .slice none 0 0] 29)).alloc (.cells #[.string strI, .string strJ, .string strK] 9)
theorem startA_heap (w : World) : (startA w).heap = ((w.heap.push (.cells #[.slice none 0 0, .slice none 0 0] 29)).push (.cells #[.slice none 0 0, .slice none 0 0] 29)).push (.cells #[.string strI, .string strJ, .string strK] 9) := rfl
theorem startA_size (w : World) : (startA w).heap.size = w.heap.size + 1 + 1 + 1 := by rw [startA_heap]; simp
theorem startA_st {w : World} (hs : StreamAt w B m) : LSt B m w (startA w) (.slice none 0 0) (.slice none 0 0) := by
 have hg : w.grownBy (startA w) none := gT (gT (gA _ _ _) (gA _ _ _)) (gA _ _ _)
 refine ⟨hs.lt, ⟨grownBy_any _ hg, hs.kept hg⟩, by rw [startA_heap]; simp, ?_, ?_, ?_⟩
 all_goals
  rw [startA_heap]
  simp only [Array.getElem?_push, Array.size_push]
  repeat (first | rw [if_pos (by omega)] | rw [if_neg (by omega)])
  try simp only [if_true]
theorem LSt.names {w0 w : World} (h : LSt B m w0 w sv cv) {k : Nat} (hk : k < 3) : ∃ s : ByteArray, s.size ≤ 100 ∧ w.cell? ⟨w0.heap.size + 1 + 1, k, none⟩ = some (.string s) := by
 have hs := h.strs
 rcases (show k = 0 ∨ k = 1 ∨ k = 2 by omega) with rfl | rfl | rfl
 · exact ⟨strI, by decide, by simp [World.cell?, hs]⟩
 · exact ⟨strJ, by decide, by simp [World.cell?, hs]⟩
 · exact ⟨strK, by decide, by simp [World.cell?, hs]⟩
theorem LSt.cell0 {w0 w : World} (h : LSt B m w0 w sv cv) : w.cell? ⟨w0.heap.size + 1, 0, none⟩ = some sv := by simp [World.cell?, h.box]
theorem LSt.cell1 {w0 w : World} (h : LSt B m w0 w sv cv) : w.cell? ⟨w0.heap.size + 1, 1, none⟩ = some cv := by simp [World.cell?, h.box]
theorem LSt.res0 {w0 w : World} (h : LSt B m w0 w sv cv) : w.cell? ⟨w0.heap.size, 0, none⟩ = some (.slice none 0 0) := by simp [World.cell?, h.res]
theorem LSt.res1 {w0 w : World} (h : LSt B m w0 w sv cv) : w.cell? ⟨w0.heap.size, 1, none⟩ = some (.slice none 0 0) := by simp [World.cell?, h.res]
theorem LSt.resf {w0 w : World} (h : LSt B m w0 w sv cv) (k : Nat) : w.frozen? ⟨w0.heap.size, k, none⟩ = false := by simp [World.frozen?, h.res]
theorem LSt.free {w0 w : World} (h : LSt B m w0 w sv cv) (k : Nat) : w.frozen? ⟨w0.heap.size + 1, k, none⟩ = false := by simp [World.frozen?, h.box]
theorem Tryz.infoSide : (Tryz.prog.info? 63).map (fun i => (i.zero, i.size, i.bytes)) = some (some (.agg #[.string ByteArray.empty, .int .i64 0, .int .i64 0]), 3, 32) := by kernel_rfl
theorem Tryz.infoForm : (Tryz.prog.info? 35).map (fun i => (i.zero, i.size, i.bytes)) = some (some (.agg #[.int .i64 0, .slice none 0 0]), 2, 32) := by kernel_rfl
theorem Tryz.infoTerm : (Tryz.prog.info? 65).map (fun i => (i.zero, i.size, i.bytes)) = some (some (.agg #[.string ByteArray.empty, .int .i64 0]), 2, 24) := by kernel_rfl
theorem owns_lower {w : World} {base base' : Nat} {e : TypeId} {size : Nat} {v : Value} {n : Nat} {xs : List Value} (h : w.ownsRow base e size v n xs) (hb : base' ≤ base) : w.ownsRow base' e size v n xs := by
 obtain ⟨a1, a2⟩ := h
 refine ⟨a1, ?_⟩
 rcases a2 with a2 | ⟨g, cap, cur, hv, hb, r⟩
 · exact .inl a2
 · exact .inr ⟨g, cap, cur, hv, by omega, r⟩
theorem news_at' {w : World} {b : Nat} {news : List Value} {e : TypeId} (hb : w.heap.size = b) : ∀ j u, news[j]? = some u → (w.alloc (.cells news.toArray e)).cell? ((⟨b, 0, none⟩ : Addr).add j) = some u := by
 subst hb
 exact news_at
theorem some_from (B m b : Nat) (zs : List ByteArray) (w W : World) (hg : w.grownBy W none) (hs : StreamAt w B m) (hm : m ≤ 1099511627776) (hb : b ≠ B) (h1 : 1 ≤ zs.length) (h2 : zs.length ≤ 1000)
  (hc : ∀ j, j < zs.length → W.cell? ⟨b, j, none⟩ = some (.string (zs.getD j ByteArray.empty))) :
  Calls Tryz.prog 6 #[.pointer (some ⟨B, 0, none⟩), .slice (some ⟨b, 0, none⟩) zs.length zs.length] W (fun e w' => ∃ z : ByteArray, z ∈ zs ∧ e = .returned (.string z) ∧ Drawn B (m + 1) w w' ∧ W.grownBy w' (some B)) := by
 refine (some_any B m b zs.length zs W (hs.kept hg) hm hb h1 h2 hc).mono ?_
 rintro e w' ⟨z, hz, rfl, hd⟩
 exact ⟨z, hz, rfl, ⟨gT (grownBy_any _ hg) hd.1, hd.2⟩, hd.1⟩
theorem pick_from (B m b : Nat) (zs : List Int) (w W : World) (hg : w.grownBy W none) (hs : StreamAt w B m) (hm : m ≤ 1099511627776) (hb : b ≠ B) (h1 : 1 ≤ zs.length) (h2 : zs.length ≤ 1000)
  (hc : ∀ j, j < zs.length → W.cell? ⟨b, j, none⟩ = some (.int .i64 (zs.getD j 0))) :
  Calls Tryz.prog 29 #[.pointer (some ⟨B, 0, none⟩), .slice (some ⟨b, 0, none⟩) zs.length zs.length] W (fun e w' => ∃ z : Int, z ∈ zs ∧ e = .returned (.int .i64 z) ∧ Drawn B (m + 1) w w' ∧ W.grownBy w' (some B)) := by
 refine (pick_any B m b zs.length zs W (hs.kept hg) hm hb h1 h2 hc).mono ?_
 rintro e w' ⟨z, hz, rfl, hd⟩
 exact ⟨z, hz, rfl, ⟨gT (grownBy_any _ hg) hd.1, hd.2⟩, hd.1⟩
theorem grown_a1 (w : World) (o : Obj) : w.grownBy (w.alloc o).drew none := gT (gA w o none) (gD _ _)
theorem grown_a2 (w : World) (o x : Obj) : w.grownBy ((w.alloc o).alloc x).drew none := gT (gA w o none) (grown_a1 _ _)
theorem Tryz.infoSet2 : (Tryz.prog.info? 29).map (·.size) = some 2 := by kernel_rfl
theorem owns_fresh (w : World) (news : List Value) (e : TypeId) (size n : Nat) (h : news.length = n * size) (hn : n ≤ maxLen) : World.ownsRow (w.alloc (.cells news.toArray e)) w.heap.size e size (.slice (some ⟨w.heap.size, 0, none⟩) n n) n news := by
 refine ⟨h, .inr ⟨w.heap.size, n, news.toArray, rfl, Nat.le_refl _, heap_alloc_new _ _, Nat.le_refl _, hn, by simpa using h, ?_⟩⟩
 rw [← h]
 simp
theorem own_ne {w : World} {base k : Nat} {e : TypeId} {size : Nat} {v : Value} {n : Nat} {xs : List Value} (h : w.ownsRow base e size v n xs) (hk : k < base) : v.ownBlock = none ∨ v.ownBlock ≠ some k := by
 cases hb : v.ownBlock with
 | none => exact .inl rfl
 | some b =>
   refine .inr fun e => ?_
   have := (h.lt b hb).1
   have := Option.some.inj e
   omega
theorem owns_keep2 {w w2 : World} {base P : Nat} {e : TypeId} {size : Nat} {v cv : Value} {n : Nat} {xs : List Value} {cs : List CondD} {tvs : List Value} (h : w.ownsRow base e size v n xs) (hg : w.grownBy w2 cv.ownBlock) (hc : CSt w P cv cs tvs) (hlt : ∀ b, v.ownBlock = some b → b < P) : w2.ownsRow base e size v n xs := by
 refine h.kept hg ?_
 cases hb : v.ownBlock with
 | none => exact .inl rfl
 | some b =>
   refine .inr fun e => ?_
   have := hlt b hb
   have := (hc.row.lt b e.symm).1
   omega
theorem odd_from (B m : Nat) (low high : Int) (w W : World) (hg : w.grownBy W none) (hs : StreamAt w B m) (hm : m ≤ 1000000000000) (h1 : low ≤ high) (h2 : -100000000 ≤ low) (h3 : high ≤ 100000000) :
  Calls Tryz.prog 32 #[.pointer (some ⟨B, 0, none⟩), .int .i64 low, .int .i64 high] W (fun e w' => ∃ z : Int, -2000000000000 ≤ z ∧ z ≤ 2000000000000 ∧ e = .returned (.int .i64 z) ∧ Drawn B (m + 2) w w' ∧ W.grownBy w' (some B)) := by
 refine (odd_any B m low high W (hs.kept hg) hm h1 h2 h3).mono ?_
 rintro e w' ⟨z, hz1, hz2, rfl, hd⟩
 exact ⟨z, hz1, hz2, rfl, ⟨gT (grownBy_any _ hg) hd.1, hd.2⟩, hd.1⟩
end Go.Proofs.YtgeklmigfhhpfaaGreatDoor
namespace Go.Proofs.YtgeklmigfhhpfaaGreatDoor
open Go.RowKit
attribute [local go_sem ↓] Go.wp_at_zero Go.wp_at_succ
abbrev TermD := ByteArray × Int
def TermRow (w : World) (P : Nat) (v : Value) (ts : List TermD) : Prop := w.ownsRow P 65 2 v ts.length (ts.flatMap termCells)
theorem TermRow.cells {w : World} {P : Nat} {p : Option Addr} {n cap : Nat} {ts : List TermD} (h : TermRow w P (.slice p n cap) ts) {j : Nat} {t : TermD} (hj : ts[j]? = some t) :
  ∃ g, p = some ⟨g, 0, none⟩ ∧ w.cell? ⟨g, j * 2, none⟩ = some (.string t.1) ∧ w.cell? ⟨g, j * 2 + 1, none⟩ = some (.int .i64 t.2) := by
 have e0 := flat_get (f := termCells) (k := 2) (fun _ => rfl) hj (i := 0) (v := .string t.1) rfl
 have e1 := flat_get (f := termCells) (k := 2) (fun _ => rfl) hj (i := 1) (v := .int .i64 t.2) rfl
 obtain ⟨g, c, hv, _, k0⟩ := own_cell h e0
 obtain ⟨g', c', hv', _, k1⟩ := own_cell h e1
 obtain ⟨rfl, _, _⟩ := Value.slice.inj hv
 obtain ⟨hg, _, _⟩ := Value.slice.inj hv'
 simp only [Option.some.injEq, Addr.mk.injEq, and_true] at hg
 subst hg
 exact ⟨g, rfl, k0, k1⟩
theorem TermRow.kept {w w' : World} {P : Nat} {v : Value} {ts : List TermD} (h : TermRow w P v ts) (hg : w.grownBy w' none) : TermRow w' P v ts := owns_kept h hg
set_option maxHeartbeats 400000 in
theorem form1_any (n : ByteArray) (z : Int) (w : World) :
  Calls Tryz.prog 87 #[.agg #[.string n, .int .i64 z]] w (Gives (.bool (z == 0)) w) := by
 go_enter Tryz.func87, Tryz.ntmps87
 go_wp2
 all_goals
  go_ret
  exact ⟨ret_bool (by simp [*]), gA _ _ _⟩
def SomeIndex (n : Nat) (w : World) (e : Ending) (w' : World) : Prop := ∃ k : Int, (k = -1 ∨ (0 ≤ k ∧ k < n ∧ (k == -1) = false)) ∧ e = .returned (.int .i64 k) ∧ w.grownBy w' none
set_option maxRecDepth 100000 in
set_option maxHeartbeats 1000000 in
theorem indexTerm_any (P : Nat) (v : Value) (ts : List TermD) (w : World) (hl : ts.length ≤ 1000000) (h : TermRow w P v ts) :
  Calls Tryz.prog 124 #[v, .func (.func 87) #[] #[]] w (SomeIndex ts.length w) := by
 obtain ⟨p, cap, rfl⟩ := own_form h
 have H := uH h
 clear h
 go_enter Tryz.func124, Tryz.ntmps124
 go_wp2
 go_loopw [8] (fun i wr => ∃ k : Nat, k ≤ ts.length ∧ i = .int .i64 k ∧ Hid (w.grownBy wr none)) (fun i _ => ts.length - (intOf i).toNat)
 case atStart => exact ⟨0, Nat.zero_le _, rfl, gR _ _⟩
 case round =>
  obtain ⟨k, hk, rfl, HG⟩ := hrel
  by_cases hlt : k < ts.length
  · have h0 := List.getElem?_eq_getElem hlt
    obtain ⟨g, rfl, h1, h2⟩ := (H.out.kept HG.out).cells h0
    generalize hn : (ts[k]).1 = n at *
    generalize hz : (ts[k]).2 = z at *
    clear h0 hn hz
    go_wp2_with (first | (go_at_call 87; refine (form1_any n z wr).mono ?_; rintro e w' ⟨rfl, hg1⟩; have G1 := uH hg1; clear hg1))
    · go_ret
      exact ⟨k, .inr ⟨by omega, by omega, by rw [Bool.eq_false_iff]; intro e; simp at e⟩, rfl, gT HG.out G1.out⟩
    · go_roundw
      case rel => exact ⟨k + 1, by omega, by go_num, gT HG.out G1.out⟩
      case measure => simp [intOf]; omega
  · obtain rfl : k = ts.length := by omega
    go_wp2
    go_ret
    exact ⟨-1, .inl rfl, rfl, HG.out⟩
end Go.Proofs.YtgeklmigfhhpfaaGreatDoor
namespace Go.Proofs.YtgeklmigfhhpfaaGreatDoor
open Go.RowKit
attribute [local go_sem ↓] Go.wp_at_zero Go.wp_at_succ
def ClonedTerms (ts : List TermD) (w : World) (e : Ending) (w' : World) : Prop :=
 ∃ v, e = .returned v ∧ TermRow w' w.heap.size v ts ∧ w.grownBy w' none
set_option maxRecDepth 100000 in
set_option maxHeartbeats 1000000 in
theorem cloneTerm_any (b off cap : Nat) (ts : List TermD) (w : World) (hl : ts.length ≤ 1000) (hc : ∀ j u, (ts.flatMap termCells)[j]? = some u → w.cell? ⟨b, off + j, none⟩ = some u) :
  Calls Tryz.prog 86 #[.slice (some ⟨b, off, none⟩) ts.length cap] w (ClonedTerms ts w) := by
 have H := uH hc
 clear hc
 obtain ⟨i0, hi, hz0, hz1, hz2⟩ := info_parts Tryz.infoTerm
 have hnil := fun W => Lib.run_eql_slice_nil (P := Tryz.prog) W 33 65 (some ⟨b, off, none⟩) ts.length cap 0 0 Tryz.underlying33
 go_enter Tryz.func86, Tryz.ntmps86
 go_wp2_with (first | (at_builtin; go_must (refine wpList_append_own _ rfl _ _ 33 rfl w.heap.size 65 i0 (.agg #[.string ByteArray.empty, .int .i64 0]) 2 24 Tryz.underlying33 hi hz0 hz1 hz2 rfl (by decide) _ 0 [] rfl (World.ownsRow_made _ _ _ (Nat.le_refl _) (Nat.zero_le _) rfl) ⟨b, off, none⟩ ts.length cap (ts.flatMap termCells) rfl (flat_length (f := termCells) (k := 2) (fun _ => rfl) ts) ?_ ?_ (by unfold maxLen; omega) (by omega) (by simp) ?_)))
 · intro j u hj
   have hadd : (⟨b, off, none⟩ : Addr).add j = ⟨b, off + j, none⟩ := by unfold Addr.add; split <;> simp_all
   rw [hadd]
   exact (gA _ _ none).cell (H.out j u hj) (by simp)
 · intro u hu
   obtain ⟨t, _, ht⟩ := List.mem_flatMap.1 hu
   simp [termCells] at ht
   rcases ht with rfl | rfl <;> rfl
 · intro v' w' ho hg _
   have HO := uH ho
   have HG := uH hg
   clear ho hg
   go_wp2
   go_ret
   exact ⟨v', rfl, HO.out, gO (gA _ _ _) HG.out (fun i hi => by simp [Value.ownBlock] at hi; omega)⟩
theorem flat_set {us : List TermD} {i : Nat} (h : i < us.length) (t : TermD) : ((us.flatMap termCells).set (i * 2) (.string t.1)).set (i * 2 + 1) (.int .i64 t.2) = (us.set i t).flatMap termCells := by
 induction us generalizing i with
 | nil => simp at h
 | cons a r ih =>
   cases i with
   | zero => rfl
   | succ i =>
     have e : (i + 1) * 2 = (i * 2) + 1 + 1 := by omega
     rw [e]
     simp only [List.flatMap_cons, termCells, List.cons_append, List.nil_append, List.set_cons_succ, List.cons.injEq, true_and]
     exact ih (by simpa using h)
theorem TermRow.stored {w : World} {P g n cap : Nat} {us : List TermD} (h : TermRow w P (.slice (some ⟨g, 0, none⟩) n cap) us) {i : Nat} (hi : i < us.length) (t : TermD) :
  TermRow ((w.setCell ⟨g, i * 2, none⟩ (.string t.1)).setCell ⟨g, i * 2 + 1, none⟩ (.int .i64 t.2)) P (.slice (some ⟨g, 0, none⟩) n cap) (us.set i t) := by
 obtain ⟨p, c, hv⟩ := own_form h
 cases hv
 have a := (World.ownsRow.stored h (i * 2) (.string t.1)).1
 have b := (World.ownsRow.stored a (i * 2 + 1) (.int .i64 t.2)).1
 unfold TermRow
 rw [← flat_set hi t, List.length_set]
 exact b
def DelPost (P : Nat) (v : Value) (ts : List TermD) (w : World) (e : Ending) (w' : World) : Prop :=
 ∃ n cap us g, e = .returned (.slice (some ⟨g, 0, none⟩) n cap) ∧ us.length = n ∧ n ≤ ts.length ∧ v.ownBlock = some g ∧ TermRow w' P (.slice (some ⟨g, 0, none⟩) n cap) us ∧ (∀ t ∈ us, t ∈ ts) ∧ w.grownBy w' (some g)
theorem own_free {w : World} {P : Nat} {e : TypeId} {size n cap g : Nat} {xs : List Value} (h : w.ownsRow P e size (.slice (some ⟨g, 0, none⟩) n cap) n xs) : n ≤ cap ∧ cap ≤ maxLen ∧ P ≤ g ∧ (∀ j, w.frozen? ⟨g, j, none⟩ = false) ∧ ∃ cur, w.heap[g]? = some (.cells cur e (0, 0)) ∧ cur.size = cap * size ∧ cur.toList.take (n * size) = xs := by
 rcases h.2 with ⟨hv, _⟩ | ⟨g', cap', cur, hv, hb, hg, hn, hc, hs, ht⟩
 · cases hv
 · obtain ⟨hgg, _, rfl⟩ := Value.slice.inj hv
   simp only [Option.some.injEq, Addr.mk.injEq, and_true] at hgg
   subst hgg
   exact ⟨hn, hc, hb, fun j => by simp [World.frozen?, hg], cur, hg, hs, ht⟩
theorem TermRow.free {w : World} {P g n cap : Nat} {us : List TermD} (h : TermRow w P (.slice (some ⟨g, 0, none⟩) n cap) us) : n = us.length ∧ n ≤ cap ∧ cap ≤ maxLen ∧ P ≤ g ∧ ∀ j, w.frozen? ⟨g, j, none⟩ = false := by
 obtain ⟨p, c, hv⟩ := own_form h
 cases hv
 obtain ⟨h1, h2, h3, h4, _⟩ := own_free h
 exact ⟨rfl, h1, h2, h3, h4⟩
theorem TermRow.block {w : World} {P g n cap : Nat} {us : List TermD} (h : TermRow w P (.slice (some ⟨g, 0, none⟩) n cap) us) : ∃ cur, w.heap[g]? = some (.cells cur 65 (0, 0)) ∧ cur.size = cap * 2 := by
 obtain ⟨p, c, hv⟩ := own_form h
 cases hv
 obtain ⟨_, _, _, _, cur, h5, h6, _⟩ := own_free h
 exact ⟨cur, h5, h6⟩
theorem TermRow.cut {w w' : World} {P g n cap i : Nat} {us : List TermD} {cur : Array Value} (h : TermRow w P (.slice (some ⟨g, 0, none⟩) n cap) us) (hi : i ≤ us.length) (hc : w.heap[g]? = some (.cells cur 65 (0, 0))) (hp : ClearPost g (i * 2) cur 65 w w') :
  TermRow w' P (.slice (some ⟨g, 0, none⟩) i cap) (us.take i) := by
 obtain ⟨p, c, hv⟩ := own_form h
 cases hv
 obtain ⟨h1, h2, h3, _, cur0, h5, h6, h7⟩ := own_free h
 rw [hc] at h5
 cases h5
 obtain ⟨cur', k1, k2, k3, _⟩ := hp
 have hl : (us.take i).length = i := by simp; omega
 have hx : cur'.toList.take (i * 2) = (us.take i).flatMap termCells := by
  rw [k3]
  have e : us = us.take i ++ us.drop i := (List.take_append_drop i us).symm
  have e2 : us.flatMap termCells = (us.take i).flatMap termCells ++ (us.drop i).flatMap termCells := by rw [← List.flatMap_append, ← e]
  have e3 : cur.toList.take (i * 2) = (us.flatMap termCells).take (i * 2) := by rw [← h7, List.take_take, Nat.min_eq_left (by omega)]
  rw [e3, e2, List.take_left' (by rw [flat_length (f := termCells) (k := 2) (fun _ => rfl), hl])]
 unfold TermRow
 rw [hl]
 exact ⟨by rw [flat_length (f := termCells) (k := 2) (fun _ => rfl), hl], .inr ⟨g, cap, cur', rfl, h3, k1, by omega, h2, by rw [k2, h6], hx⟩⟩
theorem Tryz.zeroTerm (w : World) : (zeroValue 65).run Tryz.prog w = .ok (.agg #[.string ByteArray.empty, .int .i64 0]) w := by kernel_rfl
set_option maxRecDepth 100000 in
set_option maxHeartbeats 2000000 in
theorem deleteTerm_any (P g n cap : Nat) (ts : List TermD) (w : World) (hl : ts.length ≤ 1000) (h : TermRow w P (.slice (some ⟨g, 0, none⟩) n cap) ts) :
  Calls Tryz.prog 85 #[.slice (some ⟨g, 0, none⟩) n cap, .func (.func 87) #[] #[]] w (DelPost P (.slice (some ⟨g, 0, none⟩) n cap) ts w) := by
 obtain ⟨p, c, hv⟩ := own_form h
 cases hv
 obtain ⟨f1, f2, f3, f4, _⟩ := own_free h
 have H := uH h
 clear h
 go_enter Tryz.func85, Tryz.ntmps85
 go_wp2_with (first | (go_at_call 124; go_must (refine (indexTerm_any P _ ts w (by omega) H.out).mono ?_; rintro e w1 ⟨k0, hk0, rfl, hg1⟩; have HR1 := uH (H.out.kept hg1); have HG1 := uH (grownBy_any (some g) hg1); clear hg1; rcases hk0 with rfl | ⟨q1, q2, q3⟩)))
 · go_ret
   exact ⟨_, _, ts, g, rfl, rfl, Nat.le_refl _, rfl, HR1.out, fun t h => h, HG1.out⟩
 · obtain ⟨i0, rfl⟩ : ∃ i : Nat, k0 = i := ⟨k0.toNat, by omega⟩
   go_wp2
   go_loopw [5, 6] (fun i j wr => ∃ (ki kj : Nat) (us : List TermD), ki < kj ∧ kj ≤ ts.length ∧ i = .int .i64 ki ∧ j = .int .i64 kj ∧ Hid (us.length = ts.length) ∧ Hid (TermRow wr P (.slice (some ⟨g, 0, none⟩) ts.length cap) us) ∧ Hid (∀ t ∈ us, t ∈ ts) ∧ Hid (w.grownBy wr (some g))) (fun _ j _ => ts.length - (intOf j).toNat)
   case atStart => exact ⟨i0, i0 + 1, ts, by omega, by omega, rfl, by go_num, rfl, HR1.out, fun t h => h, HG1.out⟩
   case round =>
    obtain ⟨ki, kj, us, hij, hj, rfl, rfl, HUl, HR, HM, HG⟩ := hrel
    by_cases hlt : kj < ts.length
    · have hju : kj < us.length := by rw [HUl.out]; exact hlt
      have hiu : ki < us.length := by omega
      obtain ⟨g', hg', c0, c1⟩ := HR.out.cells (List.getElem?_eq_getElem hju)
      obtain ⟨g2, hg2, d0, d1⟩ := HR.out.cells (List.getElem?_eq_getElem hiu)
      simp only [Option.some.injEq, Addr.mk.injEq, and_true] at hg' hg2
      subst hg' hg2
      have z4 := HR.out.free.2.2.2.2
      have HMem := uH (HM.out _ (List.getElem_mem hju))
      have HX := uH (show us[kj] = ((us[kj]).1, (us[kj]).2) from rfl)
      generalize hn : (us[kj]).1 = nm at *
      generalize hz : (us[kj]).2 = z at *
      generalize (us[ki]).1 = nm2 at *
      generalize (us[ki]).2 = z2 at *
      have HNz := uH (show (nm, z) ∈ ts by rw [← HX.out]; exact HMem.out)
      have HIu := uH hiu
      clear HX HMem hn hz
      clear hju hiu
      go_wp2_with (first | (go_at_call 87; go_must (refine (form1_any nm z _).mono ?_; rintro e w2 ⟨rfl, hg2⟩; have G2 := uH (gT (gA wr (.cells #[.string nm, .int .i64 z] 65) none) hg2); have b0 := hg2.cell (a := ⟨wr.heap.size, 0, none⟩) (v := .string nm) (by simp) (by simp); have b1 := hg2.cell (a := ⟨wr.heap.size, 1, none⟩) (v := .int .i64 z) (by simp) (by simp); have e0 := G2.out.cell d0 (by simp); have e1 := G2.out.cell d1 (by simp); have ef := (HR.out.kept G2.out).free.2.2.2.2; clear hg2)))
      · have hiu := HIu.out
        go_roundw
        case rel =>
         refine ⟨ki + 1, kj + 1, us.set ki (nm, z), by omega, by omega, by go_num, by go_num, ?_, ?_, ?_, ?_⟩
         · show _ = _
           rw [List.length_set]
           exact HUl.out
         · exact (HR.out.kept G2.out).stored hiu (nm, z)
         · intro t ht
           rcases List.mem_or_eq_of_mem_set ht with ht | rfl
           · exact HM.out t ht
           · exact HNz.out
         · exact gT HG.out (gT (grownBy_any _ G2.out) (gT (gS _ _ _ _) (gS _ _ _ _)))
        case measure => simp [intOf]; omega
      · go_roundw
        case rel => exact ⟨ki, kj + 1, us, by omega, by omega, by go_num, by go_num, HUl.out, HR.out.kept G2.out, HM.out, gT HG.out (grownBy_any _ G2.out)⟩
        case measure => simp [intOf]; omega
    · obtain rfl : kj = ts.length := by omega
      obtain ⟨cur, z1, z2⟩ := HR.out.block
      have hi1 : (ki : Int) ≤ (ts.length : Int) := by omega
      have hi2 : (0 : Int) ≤ (ki : Int) := by omega
      have hi3 : (ki : Int) ≤ (cap : Int) := by omega
      obtain ⟨w2, hrun, hcp⟩ := run_clear_row (P := Tryz.prog) wr 33 65 0 (.agg #[.string ByteArray.empty, .int .i64 0]) 2 Tryz.underlying33 Tryz.zeroTerm rfl (by decide) g (ki * 2) (ts.length - ki) (cap - ki) cur 65 z1 (by omega)
      have HC := uH hcp
      clear hcp
      go_wp2
      go_ret
      have hul := HUl.out
      refine ⟨_, _, us.take ki, g, rfl, by simp; omega, by omega, rfl, HR.out.cut (by omega) z1 HC.out, fun t ht => HM.out t (List.mem_of_mem_take ht), ?_⟩
      obtain ⟨_, _, _, _, hgg⟩ := HC.out
      exact gT HG.out hgg
end Go.Proofs.YtgeklmigfhhpfaaGreatDoor
namespace Go.Proofs.YtgeklmigfhhpfaaGreatDoor
def cmpL : List Int → List Int → Int
 | [], [] => 0
 | [], _ :: _ => -1
 | _ :: _, [] => 1
 | x :: r, y :: s => if x < y then -1 else if y < x then 1 else cmpL r s
theorem cmpL_self : ∀ x : List Int, cmpL x x = 0
 | [] => rfl
 | a :: r => by simp [cmpL, cmpL_self r]
theorem cmpL_range : ∀ x y : List Int, cmpL x y = -1 ∨ cmpL x y = 0 ∨ cmpL x y = 1
 | [], [] => .inr (.inl rfl)
 | [], _ :: _ => .inl rfl
 | _ :: _, [] => .inr (.inr rfl)
 | a :: r, b :: s => by
   simp only [cmpL]
   split
   · exact .inl rfl
   · split
     · exact .inr (.inr rfl)
     · exact cmpL_range r s
theorem cmpL_anti : ∀ x y : List Int, cmpL y x = - cmpL x y
 | [], [] => rfl
 | [], _ :: _ => rfl
 | _ :: _, [] => rfl
 | a :: r, b :: s => by
   simp only [cmpL]
   rcases Int.lt_trichotomy a b with h | h | h
   · simp [h, show ¬ b < a by omega]
   · subst h
     simp only [Int.lt_irrefl, if_false]
     exact cmpL_anti r s
   · simp [h, show ¬ a < b by omega]
theorem cmpL_zero : ∀ x y : List Int, cmpL x y = 0 → x = y
 | [], [], _ => rfl
 | [], _ :: _, h => by simp [cmpL] at h
 | _ :: _, [], h => by simp [cmpL] at h
 | a :: r, b :: s, h => by
   simp only [cmpL] at h
   split at h
   · simp at h
   · split at h
     · simp at h
     · have : a = b := by omega
       rw [this, cmpL_zero r s h]
theorem cmpL_trans : ∀ x y z : List Int, cmpL x y < 0 → cmpL y z < 0 → cmpL x z < 0
 | [], [], _, h, _ => by simp [cmpL] at h
 | [], _ :: _, [], _, h => by simp [cmpL] at h
 | [], _ :: _, _ :: _, _, _ => by simp [cmpL]
 | _ :: _, [], _, h, _ => by simp [cmpL] at h
 | _ :: _, _ :: _, [], _, h => by simp [cmpL] at h
 | a :: r, b :: s, c :: t, h, k => by
   simp only [cmpL] at h k ⊢
   rcases Int.lt_trichotomy a b with h1 | h1 | h1
   · rcases Int.lt_trichotomy b c with h2 | h2 | h2
     · rw [if_pos (by omega)]; decide
     · rw [if_pos (by omega)]; decide
     · rw [if_neg (by omega), if_pos h2] at k
       simp at k
   · subst h1
     simp only [Int.lt_irrefl, if_false] at h
     rcases Int.lt_trichotomy a c with h2 | h2 | h2
     · rw [if_pos h2]; decide
     · subst h2
       simp only [Int.lt_irrefl, if_false] at k ⊢
       exact cmpL_trans r s t h k
     · rw [if_neg (by omega), if_pos h2] at k
       simp at k
   · rw [if_neg (by omega), if_pos h1] at h
     simp at h
theorem cmpL_le_trans {x y z : List Int} (h : ¬ cmpL y x < 0) (k : ¬ cmpL z y < 0) : ¬ cmpL z x < 0 := by
 have h1 := cmpL_anti x y
 have h2 := cmpL_anti y z
 have h3 := cmpL_anti x z
 rcases cmpL_range x y with a | a | a
 · rcases cmpL_range y z with b | b | b
   · have := cmpL_trans x y z (by omega) (by omega)
     omega
   · obtain rfl := cmpL_zero _ _ b
     omega
   · omega
 · obtain rfl := cmpL_zero _ _ a
   exact k
 · omega
end Go.Proofs.YtgeklmigfhhpfaaGreatDoor
namespace Go.Proofs.YtgeklmigfhhpfaaGreatDoor
open Go.Sort
end Go.Proofs.YtgeklmigfhhpfaaGreatDoor
namespace Go.Proofs.YtgeklmigfhhpfaaGreatDoor
open Go.RowKit Go.Sort
theorem put_row {β : Type} [Inhabited β] (enc : β → Value) (w : World) (g m : Nat) (F : Array β) (os : Array Obj) (cur : Array Value) (T : TypeId) (hg : w.heap[g]? = some (.cells cur T (0, 0))) (hs : F.size ≤ cur.size) :
  (grow (putRow enc (Go.Sort.ahead w m) g 0 F) os).heap[g]? = some (.cells (putCells enc 0 F cur) T (0, 0)) ∧ (putCells enc 0 F cur).size = cur.size ∧ (putCells enc 0 F cur).toList.take F.size = F.toList.map enc ∧ w.grownBy (grow (putRow enc (Go.Sort.ahead w m) g 0 F) os) (some g) := by
 have hlt : g < w.heap.size := (Array.getElem?_eq_some_iff.1 hg).1
 have hh : ∀ k, k < w.heap.size → (grow (putRow enc (Go.Sort.ahead w m) g 0 F) os).heap[k]? = (w.heap.modify g (onCells (putCells enc 0 F)))[k]? := fun k hk => by
  show ((w.heap.modify g (onCells (putCells enc 0 F))) ++ os)[k]? = _
  rw [Array.getElem?_append_left (by simpa using hk)]
 refine ⟨?_, by simp [putCells], ?_, rfl, rfl, rfl, ?_, fun k hk hne => ?_⟩
 · rw [hh g hlt, Array.getElem?_modify, if_pos rfl, hg]
   rfl
 · refine List.ext_getElem (by simp [putCells]; omega) fun i h1 h2 => ?_
   have hi : i < F.size := by simpa using h2
   simp [putCells, hi]
 · show w.heap.size ≤ ((w.heap.modify g (onCells (putCells enc 0 F))) ++ os).size
   simp
 · rw [hh k hk, Array.getElem?_modify, if_neg (fun e => hne (by rw [e]))]
theorem flatK_list {α : Type} [Inhabited α] (enc : α → List Value) (k : Nat) (hk : ∀ a, (enc a).length = k) (d : Array α) : (flatK enc k d).toList = d.toList.flatMap enc := by
 have hl : (d.toList.flatMap enc).length = d.size * k := by rw [flat_length hk]; simp
 refine List.ext_getElem (by rw [hl]; simp) fun t h1 h2 => ?_
 have ht : t < d.size * k := by rw [← hl]; exact h2
 have k0 : 0 < k := by
  rcases Nat.eq_zero_or_pos k with h | h
  · rw [h] at ht; simp at ht
  · exact h
 have hq : t / k < d.size := Nat.div_lt_of_lt_mul (by rw [Nat.mul_comm]; exact ht)
 have hr : t % k < (enc d[t / k]!).length := by rw [hk]; exact Nat.mod_lt _ k0
 have e1 : (flatK enc k d)[t]! = (enc d[t / k]!)[t % k]! := get_flatK enc k d t ht
 have e2 := flat_get hk (l := d.toList) (j := t / k) (i := t % k) (a := d[t / k]!) (v := (enc d[t / k]!)[t % k]!) (by simp [hq]) (by rw [List.getElem?_eq_getElem hr]; exact congrArg some (getElem!_pos (enc d[t / k]!) _ hr).symm)
 rw [show t / k * k + t % k = t by rw [Nat.mul_comm]; exact Nat.div_add_mod t k] at e2
 rw [List.getElem?_eq_getElem h2] at e2
 have e3 : (flatK enc k d)[t]! = (flatK enc k d).toList[t] := by
  rw [getElem!_pos _ t (by simpa using h1)]
  simp
 rw [← e3, e1]
 exact (Option.some.inj e2).symm
theorem sorted_own {β : Type} [Inhabited β] (enc : β → Value) {w : World} {P : Nat} {e : TypeId} {size n cap g : Nat} {xs : List Value} (h : w.ownsRow P e size (.slice (some ⟨g, 0, none⟩) n cap) n xs) (m : Nat) (F : Array β) (os : Array Obj) (hF : F.size = n * size) :
  (grow (putRow enc (Go.Sort.ahead w m) g 0 F) os).ownsRow P e size (.slice (some ⟨g, 0, none⟩) n cap) n (F.toList.map enc) ∧ w.grownBy (grow (putRow enc (Go.Sort.ahead w m) g 0 F) os) (some g) := by
 obtain ⟨h1, h2⟩ := h
 rcases h2 with ⟨hv, _⟩ | ⟨g', cap', cur, hv, hb, hg, hn, hc, hs, ht⟩
 · cases hv
 · obtain ⟨hgg, _, rfl⟩ := Value.slice.inj hv
   simp only [Option.some.injEq, Addr.mk.injEq, and_true] at hgg
   subst hgg
   have hle : n * size ≤ cap * size := Nat.mul_le_mul_right _ hn
   obtain ⟨p1, p2, p3, p4⟩ := put_row enc w g m F os cur e hg (by omega)
   exact ⟨⟨by simp [hF], .inr ⟨g, cap, _, rfl, hb, p1, hn, hc, by rw [p2, hs], by rw [← hF]; exact p3⟩⟩, p4⟩
theorem sorted_holds {α : Type} [Inhabited α] {enc : α → List Value} {k : Nat} (hk : ∀ a, (enc a).length = k) {w : World} {P : Nat} {e : TypeId} {n cap g : Nat} {d : Array α} (h : w.ownsRow P e k (.slice (some ⟨g, 0, none⟩) n cap) n (d.toList.flatMap enc)) : HoldsK enc k w g 0 d := by
 rw [← flatK_list enc k hk] at h
 have hfz : ∀ j, w.frozen? ⟨g, j, none⟩ = false := by
  rcases h.2 with ⟨hv, _⟩ | ⟨g', cap', cur, hv, hb, hg, _⟩
  · cases hv
  · obtain ⟨hgg, _, _⟩ := Value.slice.inj hv
    simp only [Option.some.injEq, Addr.mk.injEq, and_true] at hgg
    subst hgg
    intro j
    simp [World.frozen?, hg]
 intro j hj
 obtain ⟨g', c', hv, _, hcell⟩ := own_cell h (j := j) (u := (flatK enc k d)[j]!) (by rw [getElem!_pos _ j hj]; simp)
 obtain ⟨hgg, _, _⟩ := Value.slice.inj hv
 simp only [Option.some.injEq, Addr.mk.injEq, and_true] at hgg
 subst hgg
 exact ⟨by simpa using hcell, hfz _⟩
theorem cmpB_lex (a b : List UInt8) : Lib.compareBytes a b = cmpL (a.map fun x => (x.toNat : Int)) (b.map fun x => (x.toNat : Int)) := by
 induction a generalizing b with
 | nil => cases b <;> rfl
 | cons x r ih =>
   cases b with
   | nil => rfl
   | cons y s =>
     simp only [Lib.compareBytes, List.map_cons, cmpL, ih]
     simp only [UInt8.lt_iff_toNat_lt, Int.ofNat_lt]
end Go.Proofs.YtgeklmigfhhpfaaGreatDoor
