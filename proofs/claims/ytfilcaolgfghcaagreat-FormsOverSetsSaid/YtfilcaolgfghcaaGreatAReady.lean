/-
 What ASet leaves.
 ASet: what is drawn so far, and when all is drawn.
-/
import Derived.Test.YtfilcaolgfghcaaGreatParts
import Derived.Test.YtfilcaolgfghcaaGreatRepeat
import Derived.IntWalk
import Derived.WalkSpells
import Derived.Deep.Cut
import Derived.Deep.DeepCutAuto
namespace Go.Proofs.YtfilcaolgfghcaaGreat
open Go.RowKit

/-- A set by value, that stays when the stream is drawn from. -/
def ASetPost (B m : Nat) (w : World) (e : Ending) (w' : World) : Prop := ∃ sv cv S, e = .returned (.agg #[sv, cv]) ∧ (∀ w2, w'.grownBy w2 (some B) → SetAt w2 sv cv S) ∧ S.1.length ≤ 100 ∧ Drawn B m w w'

end Go.Proofs.YtfilcaolgfghcaaGreat

namespace Go.Proofs.YtfilcaolgfghcaaGreat
open Go.RowKit
attribute [local go_sem ↓] Go.wp_at_zero Go.wp_at_succ

def strI : ByteArray := ⟨#[105]⟩
def strJ : ByteArray := ⟨#[106]⟩
def strK : ByteArray := ⟨#[107]⟩

theorem pick_lit' (B m b : Nat) (zs : List Int) (T : TypeId) (w : World) (hb : w.heap.size = b) (hs : StreamAt w B m) (hm : m ≤ 1099511627776) (h1 : 1 ≤ zs.length) (h2 : zs.length ≤ 1000) :
    Calls Tryz.prog 24 #[.pointer (some ⟨B, 0, none⟩), .slice (some ⟨b, 0, none⟩) zs.length zs.length] (w.alloc (.cells (zs.map (Value.int .i64)).toArray T)) (PickOf B (m + 1) zs w) := by
  subst hb
  exact pick_lit B m zs T w hs hm h1 h2
theorem some_lit' (B m b : Nat) (zs : List ByteArray) (T : TypeId) (w : World) (hb : w.heap.size = b) (hs : StreamAt w B m) (hm : m ≤ 1099511627776) (h1 : 1 ≤ zs.length) (h2 : zs.length ≤ 1000) :
    Calls Tryz.prog 7 #[.pointer (some ⟨B, 0, none⟩), .slice (some ⟨b, 0, none⟩) zs.length zs.length] (w.alloc (.cells (zs.map Value.string).toArray T)) (SomeOf B (m + 1) zs w) := by
  subst hb
  exact some_lit B m zs T w hs hm h1 h2

theorem grown_drew (w : World) (r : Option Nat) : w.grownBy w.drew r := ⟨rfl, rfl, rfl, Nat.le_refl _, fun _ _ _ => rfl⟩
theorem pick_drew (B m b : Nat) (zs : List Int) (T : TypeId) (w : World) (hb : w.heap.size = b) (hs : StreamAt w B m) (hm : m ≤ 1099511627776) (h1 : 1 ≤ zs.length) (h2 : zs.length ≤ 1000) :
    Calls Tryz.prog 24 #[.pointer (some ⟨B, 0, none⟩), .slice (some ⟨b, 0, none⟩) zs.length zs.length] (w.alloc (.cells (zs.map (Value.int .i64)).toArray T)).drew (PickOf B (m + 1) zs w) := by
  subst hb
  have hg : w.grownBy (w.alloc (.cells (zs.map (Value.int .i64)).toArray T)).drew none := grownBy_trans (World.grownBy_alloc _ _ _) (grown_drew _ _)
  refine (pick_any B m w.heap.size zs.length zs _ (hs.kept hg) hm (by have := hs.lt; omega) h1 h2 fun j hj => ?_).mono ?_
  · show (w.alloc (.cells (zs.map (Value.int .i64)).toArray T)).cell? _ = _
    simp [hj]
  · rintro e w' ⟨z, hz, rfl, hd⟩
    exact ⟨z, hz, rfl, grownBy_trans (grownBy_any _ hg) hd.1, hd.2⟩
theorem some_drew (B m b : Nat) (zs : List ByteArray) (T : TypeId) (w : World) (hb : w.heap.size = b) (hs : StreamAt w B m) (hm : m ≤ 1099511627776) (h1 : 1 ≤ zs.length) (h2 : zs.length ≤ 1000) :
    Calls Tryz.prog 7 #[.pointer (some ⟨B, 0, none⟩), .slice (some ⟨b, 0, none⟩) zs.length zs.length] (w.alloc (.cells (zs.map Value.string).toArray T)).drew (SomeOf B (m + 1) zs w) := by
  subst hb
  have hg : w.grownBy (w.alloc (.cells (zs.map Value.string).toArray T)).drew none := grownBy_trans (World.grownBy_alloc _ _ _) (grown_drew _ _)
  refine (some_any B m w.heap.size zs.length zs _ (hs.kept hg) hm (by have := hs.lt; omega) h1 h2 fun j hj => ?_).mono ?_
  · show (w.alloc (.cells (zs.map Value.string).toArray T)).cell? _ = _
    simp [hj]
  · rintro e w' ⟨z, hz, rfl, hd⟩
    exact ⟨z, hz, rfl, grownBy_trans (grownBy_any _ hg) hd.1, hd.2⟩

/-- The state of ASet: what it draws from, the set so far, the names, the result's place. -/
structure LSt (B m : Nat) (w0 w : World) (sv cv : Value) : Prop where
  lt : B < w0.heap.size
  drawn : Drawn B m w0 w
  size : w0.heap.size + 3 ≤ w.heap.size
  box : w.heap[w0.heap.size + 1]? = some (.cells #[sv, cv] 29 (0, 0))
  strs : w.heap[w0.heap.size + 2]? = some (.cells #[.string strI, .string strJ, .string strK] 9 (0, 0))
  res : w.heap[w0.heap.size]? = some (.cells #[.slice none 0 0, .slice none 0 0] 29 (0, 0))

variable {B m m' : Nat} {w0 w w' : World} {sv cv : Value}

theorem LSt.draw (h : LSt B m w0 w sv cv) (hd : Drawn B m' w w') : LSt B m' w0 w' sv cv := by
  have hl := h.lt
  have hs := h.size
  exact ⟨hl, h.drawn.trans hd, Nat.le_trans hs hd.1.size, (hd.1.block _ (by omega) (by simp; omega)).trans h.box, (hd.1.block _ (by omega) (by simp; omega)).trans h.strs, (hd.1.block _ (by omega) (by simp; omega)).trans h.res⟩
theorem LSt.own {r : Option Nat} (h : LSt B m w0 w sv cv) (hg : w.grownBy w' r) (hr : ∀ k, r = some k → w0.heap.size + 3 ≤ k) : LSt B m w0 w' sv cv := by
  have hl := h.lt
  have hs := h.size
  refine ⟨hl, h.drawn.own hg hl (fun k hk => by have := hr k hk; omega), Nat.le_trans hs hg.size, (hg.block _ (by omega) (fun e => ?_)).trans h.box, (hg.block _ (by omega) (fun e => ?_)).trans h.strs, (hg.block _ (by omega) (fun e => ?_)).trans h.res⟩ <;>
  · have := hr _ e.symm
    omega
theorem LSt.more (h : LSt B m w0 w sv cv) (hm : m ≤ m') : LSt B m' w0 w sv cv := ⟨h.lt, h.drawn.more hm, h.size, h.box, h.strs, h.res⟩
theorem LSt.grown (h : LSt B m w0 w sv cv) (hg : w.grownBy w' none) : LSt B m w0 w' sv cv := h.own hg (fun k hk => by cases hk)
theorem LSt.set0 (h : LSt B m w0 w sv cv) (v : Value) : LSt B m w0 (w.setCell ⟨w0.heap.size + 1, 0, none⟩ v) v cv := by
  have hl := h.lt
  have hs := h.size
  have hg : w.grownBy (w.setCell ⟨w0.heap.size + 1, 0, none⟩ v) (some (w0.heap.size + 1)) := grown_set w _ _ _
  refine ⟨hl, h.drawn.own hg hl (fun k hk => by cases hk; omega), Nat.le_trans hs hg.size, ?_, (hg.block _ (by omega) (by simp)).trans h.strs, (hg.block _ (by omega) (by simp)).trans h.res⟩
  show (w.heap.modify (w0.heap.size + 1) _)[w0.heap.size + 1]? = _
  rw [Array.getElem?_modify, if_pos rfl, h.box]
  simp
theorem LSt.set1 (h : LSt B m w0 w sv cv) (v : Value) : LSt B m w0 (w.setCell ⟨w0.heap.size + 1, 1, none⟩ v) sv v := by
  have hl := h.lt
  have hs := h.size
  have hg : w.grownBy (w.setCell ⟨w0.heap.size + 1, 1, none⟩ v) (some (w0.heap.size + 1)) := grown_set w _ _ _
  refine ⟨hl, h.drawn.own hg hl (fun k hk => by cases hk; omega), Nat.le_trans hs hg.size, ?_, (hg.block _ (by omega) (by simp)).trans h.strs, (hg.block _ (by omega) (by simp)).trans h.res⟩
  show (w.heap.modify (w0.heap.size + 1) _)[w0.heap.size + 1]? = _
  rw [Array.getElem?_modify, if_pos rfl, h.box]
  simp

theorem Drawn.grown {a b c : World} (h : Drawn B m a b) (k : b.grownBy c none) : Drawn B m a c := ⟨grownBy_trans h.1 (grownBy_any _ k), h.2.kept k⟩

def startA (w : World) : World :=
  ((w.alloc (.cells #[.slice none 0 0, .slice none 0 0] 29)).alloc (.cells #[.slice none 0 0, .slice none 0 0] 29)).alloc (.cells #[.string strI, .string strJ, .string strK] 9)
theorem startA_heap (w : World) : (startA w).heap = ((w.heap.push (.cells #[.slice none 0 0, .slice none 0 0] 29)).push (.cells #[.slice none 0 0, .slice none 0 0] 29)).push (.cells #[.string strI, .string strJ, .string strK] 9) := rfl
theorem startA_size (w : World) : (startA w).heap.size = w.heap.size + 1 + 1 + 1 := by rw [startA_heap]; simp
theorem startA_st {w : World} (hs : StreamAt w B m) : LSt B m w (startA w) (.slice none 0 0) (.slice none 0 0) := by
  have hg : w.grownBy (startA w) none := grownBy_trans (grownBy_trans (World.grownBy_alloc _ _ _) (World.grownBy_alloc _ _ _)) (World.grownBy_alloc _ _ _)
  refine ⟨hs.lt, ⟨grownBy_any _ hg, hs.kept hg⟩, by rw [startA_heap]; simp, ?_, ?_, ?_⟩
  all_goals
    rw [startA_heap]
    simp only [Array.getElem?_push, Array.size_push]
    repeat (first | rw [if_pos (by omega)] | rw [if_neg (by omega)])
    try simp only [if_true]

theorem LSt.names {w0 w : World} (h : LSt B m w0 w sv cv) {k : Nat} (hk : k < 3) : ∃ s : ByteArray, s.size ≤ 100 ∧ w.cell? ⟨w0.heap.size + 1 + 1, k, none⟩ = some (.string s) := by
  have hs := h.strs
  rcases (show k = 0 ∨ k = 1 ∨ k = 2 by omega) with rfl | rfl | rfl
  · exact ⟨strI, by decide, by simp [World.cell?, hs]⟩
  · exact ⟨strJ, by decide, by simp [World.cell?, hs]⟩
  · exact ⟨strK, by decide, by simp [World.cell?, hs]⟩
theorem LSt.cell0 {w0 w : World} (h : LSt B m w0 w sv cv) : w.cell? ⟨w0.heap.size + 1, 0, none⟩ = some sv := by simp [World.cell?, h.box]
theorem LSt.cell1 {w0 w : World} (h : LSt B m w0 w sv cv) : w.cell? ⟨w0.heap.size + 1, 1, none⟩ = some cv := by simp [World.cell?, h.box]
theorem LSt.res0 {w0 w : World} (h : LSt B m w0 w sv cv) : w.cell? ⟨w0.heap.size, 0, none⟩ = some (.slice none 0 0) := by simp [World.cell?, h.res]
theorem LSt.res1 {w0 w : World} (h : LSt B m w0 w sv cv) : w.cell? ⟨w0.heap.size, 1, none⟩ = some (.slice none 0 0) := by simp [World.cell?, h.res]
theorem LSt.resf {w0 w : World} (h : LSt B m w0 w sv cv) (k : Nat) : w.frozen? ⟨w0.heap.size, k, none⟩ = false := by simp [World.frozen?, h.res]
theorem LSt.free {w0 w : World} (h : LSt B m w0 w sv cv) (k : Nat) : w.frozen? ⟨w0.heap.size + 1, k, none⟩ = false := by simp [World.frozen?, h.box]

theorem Tryz.infoSide : (Tryz.prog.info? 64).map (fun i => (i.zero, i.size, i.bytes)) = some (some (.agg #[.string ByteArray.empty, .int .i64 0, .int .i64 0]), 3, 32) := by kernel_rfl
theorem Tryz.infoForm : (Tryz.prog.info? 33).map (fun i => (i.zero, i.size, i.bytes)) = some (some (.agg #[.int .i64 0, .slice none 0 0]), 2, 32) := by kernel_rfl
theorem Tryz.infoTerm : (Tryz.prog.info? 66).map (fun i => (i.zero, i.size, i.bytes)) = some (some (.agg #[.string ByteArray.empty, .int .i64 0]), 2, 24) := by kernel_rfl

theorem owns_lower {w : World} {base base' : Nat} {e : TypeId} {size : Nat} {v : Value} {n : Nat} {xs : List Value} (h : w.ownsRow base e size v n xs) (hb : base' ≤ base) : w.ownsRow base' e size v n xs := by
  obtain ⟨a1, a2⟩ := h
  refine ⟨a1, ?_⟩
  rcases a2 with a2 | ⟨g, cap, cur, hv, hb, r⟩
  · exact .inl a2
  · exact .inr ⟨g, cap, cur, hv, by omega, r⟩

theorem LSt.finish {M : Nat} {S : List SideD × List CondD} (h : LSt B m w0 w sv cv) (hS : ∀ w1 w2, w.grownBy w1 (some w0.heap.size) → w1.grownBy w2 (some B) → SetAt w2 sv cv S) (hl : S.1.length ≤ 100) (hm : m ≤ M) :
    ((w.setCell ⟨w0.heap.size, 0, none⟩ sv).setCell ⟨w0.heap.size, 1, none⟩ cv).heap[w0.heap.size]? = some (.cells #[sv, cv] 29 (0, 0)) ∧
    ASetPost B M w0 (.returned (.agg #[sv, cv])) ((w.setCell ⟨w0.heap.size, 0, none⟩ sv).setCell ⟨w0.heap.size, 1, none⟩ cv) := by
  have hg : w.grownBy ((w.setCell ⟨w0.heap.size, 0, none⟩ sv).setCell ⟨w0.heap.size, 1, none⟩ cv) (some w0.heap.size) := grownBy_trans (grown_set _ _ _ _) (grown_set _ _ _ _)
  have hr := h.res
  refine ⟨by simp [World.setCell, Array.getElem?_modify, hr], sv, cv, S, rfl, fun w2 h2 => hS _ _ hg h2, hl, (h.drawn.own hg h.lt (fun k hk => by cases hk; exact Nat.le_refl _)).more hm⟩

theorem setAt_of {P k : Nat} {l : List SideD} {cs : List CondD} {tvs : List Value} {n : Nat} (ho : w.ownsRow (n + 3) 64 3 sv k (l.flatMap sideCells)) (hk : l.length = k) (hl : k ≤ 1000000) (hg : ∀ s ∈ l, goodSide s) (hc : CSt w P cv cs tvs) (hcl : cs.length ≤ 1000000) (hP : n < P) (hB : B < n) :
    ∀ w1 w2, w.grownBy w1 (some n) → w1.grownBy w2 (some B) → SetAt w2 sv cv (l, cs) := fun w1 w2 hw hw2 => by
  subst hk
  have hne : ∀ j, j < n + 3 → sv.ownBlock = none ∨ sv.ownBlock ≠ some j := fun j hj => by
    cases hb : sv.ownBlock with
    | none => exact .inl rfl
    | some b =>
      refine .inr fun e => ?_
      have := (ho.lt b hb).1
      have := Option.some.inj e
      omega
  refine ⟨sides_of_owns ((ho.kept hw (hne n (by omega))).kept hw2 (hne B (by omega))) hl hg, ((hc.kept hw (fun k hk => by cases hk; exact hP)).kept hw2 (fun k hk => by cases hk; omega)).conds hcl⟩

theorem news_at' {w : World} {b : Nat} {news : List Value} {e : TypeId} (hb : w.heap.size = b) : ∀ j u, news[j]? = some u → (w.alloc (.cells news.toArray e)).cell? ((⟨b, 0, none⟩ : Addr).add j) = some u := by
  subst hb
  exact news_at

/-- A draw's contract in a world that has grown since. -/
theorem some_from (B m b : Nat) (zs : List ByteArray) (w W : World) (hg : w.grownBy W none) (hs : StreamAt w B m) (hm : m ≤ 1099511627776) (hb : b ≠ B) (h1 : 1 ≤ zs.length) (h2 : zs.length ≤ 1000)
    (hc : ∀ j, j < zs.length → W.cell? ⟨b, j, none⟩ = some (.string (zs.getD j ByteArray.empty))) :
    Calls Tryz.prog 7 #[.pointer (some ⟨B, 0, none⟩), .slice (some ⟨b, 0, none⟩) zs.length zs.length] W (fun e w' => ∃ z : ByteArray, z ∈ zs ∧ e = .returned (.string z) ∧ Drawn B (m + 1) w w' ∧ W.grownBy w' (some B)) := by
  refine (some_any B m b zs.length zs W (hs.kept hg) hm hb h1 h2 hc).mono ?_
  rintro e w' ⟨z, hz, rfl, hd⟩
  exact ⟨z, hz, rfl, ⟨grownBy_trans (grownBy_any _ hg) hd.1, hd.2⟩, hd.1⟩
theorem pick_from (B m b : Nat) (zs : List Int) (w W : World) (hg : w.grownBy W none) (hs : StreamAt w B m) (hm : m ≤ 1099511627776) (hb : b ≠ B) (h1 : 1 ≤ zs.length) (h2 : zs.length ≤ 1000)
    (hc : ∀ j, j < zs.length → W.cell? ⟨b, j, none⟩ = some (.int .i64 (zs.getD j 0))) :
    Calls Tryz.prog 24 #[.pointer (some ⟨B, 0, none⟩), .slice (some ⟨b, 0, none⟩) zs.length zs.length] W (fun e w' => ∃ z : Int, z ∈ zs ∧ e = .returned (.int .i64 z) ∧ Drawn B (m + 1) w w' ∧ W.grownBy w' (some B)) := by
  refine (pick_any B m b zs.length zs W (hs.kept hg) hm hb h1 h2 hc).mono ?_
  rintro e w' ⟨z, hz, rfl, hd⟩
  exact ⟨z, hz, rfl, ⟨grownBy_trans (grownBy_any _ hg) hd.1, hd.2⟩, hd.1⟩

theorem grown_a1 (w : World) (o : Obj) : w.grownBy (w.alloc o).drew none := grownBy_trans (World.grownBy_alloc w o none) (grown_drew _ _)
theorem grown_a2 (w : World) (o x : Obj) : w.grownBy ((w.alloc o).alloc x).drew none := grownBy_trans (World.grownBy_alloc w o none) (grown_a1 _ _)

theorem Tryz.infoSet2 : (Tryz.prog.info? 29).map (·.size) = some 2 := by kernel_rfl

theorem owns_fresh (w : World) (news : List Value) (e : TypeId) (size n : Nat) (h : news.length = n * size) (hn : n ≤ maxLen) : World.ownsRow (w.alloc (.cells news.toArray e)) w.heap.size e size (.slice (some ⟨w.heap.size, 0, none⟩) n n) n news := by
  refine ⟨h, .inr ⟨w.heap.size, n, news.toArray, rfl, Nat.le_refl _, heap_alloc_new _ _, Nat.le_refl _, hn, by simpa using h, ?_⟩⟩
  rw [← h]
  simp

theorem own_ne {w : World} {base k : Nat} {e : TypeId} {size : Nat} {v : Value} {n : Nat} {xs : List Value} (h : w.ownsRow base e size v n xs) (hk : k < base) : v.ownBlock = none ∨ v.ownBlock ≠ some k := by
  cases hb : v.ownBlock with
  | none => exact .inl rfl
  | some b =>
    refine .inr fun e => ?_
    have := (h.lt b hb).1
    have := Option.some.inj e
    omega

theorem owns_keep2 {w w2 : World} {base P : Nat} {e : TypeId} {size : Nat} {v cv : Value} {n : Nat} {xs : List Value} {cs : List CondD} {tvs : List Value} (h : w.ownsRow base e size v n xs) (hg : w.grownBy w2 cv.ownBlock) (hc : CSt w P cv cs tvs) (hlt : ∀ b, v.ownBlock = some b → b < P) : w2.ownsRow base e size v n xs := by
  refine h.kept hg ?_
  cases hb : v.ownBlock with
  | none => exact .inl rfl
  | some b =>
    refine .inr fun e => ?_
    have := hlt b hb
    have := (hc.row.lt b e.symm).1
    omega

/-- All is drawn. -/
def ReadyA (B M : Nat) (w0 wx : World) : Prop :=
  ∃ (p q : Option Addr) (n c k d : Nat) (S : List SideD × List CondD), LSt B M w0 wx (.slice p n c) (.slice q k d) ∧ S.1.length ≤ 100 ∧ ∀ w1 w2, wx.grownBy w1 (some w0.heap.size) → w1.grownBy w2 (some B) → SetAt w2 (.slice p n c) (.slice q k d) S
theorem ready_of {M : Nat} {S : List SideD × List CondD} {p q : Option Addr} {n c k d : Nat} (h : LSt B m w0 w sv cv) (hS : ∀ w1 w2, w.grownBy w1 (some w0.heap.size) → w1.grownBy w2 (some B) → SetAt w2 sv cv S) (hl : S.1.length ≤ 100) (hm : m ≤ M) (e1 : sv = .slice p n c) (e2 : cv = .slice q k d) : Hid (ReadyA B M w0 w) := by
  subst e1 e2
  exact ⟨p, q, n, c, k, d, S, h.more hm, hl, hS⟩

theorem case1_ready {M P k ncap g cl : Nat} {w0 wP w4 : World} {l : List SideD} {cs : List CondD} {tvs : List Value} {ps pc : Option Addr} {scap ccap : Nat} {zs : ByteArray} {z : Int}
    (HLQ : Hid (LSt B m w0 (w4.setCell ⟨w0.heap.size + 1, 1, none⟩ (.slice (some ⟨g, 0, none⟩) (cs.length + 1) ncap)) (.slice ps k scap) (.slice (some ⟨g, 0, none⟩) (cs.length + 1) ncap)))
    (HOP : Hid (wP.ownsRow (w0.heap.size + 3) 64 3 (.slice ps k scap) k (l.flatMap sideCells))) (HCP : Hid (CSt wP P (.slice pc cs.length ccap) cs tvs)) (HZ : Hid (zs.size ≤ 100)) (HZ2 : Hid (z = 1 ∨ z = 0 ∨ z = 1001))
    (G4 : Hid ((wP.alloc (.cells #[.string zs, .int .i64 z] 66)).grownBy w4 (Value.slice pc cs.length ccap).ownBlock))
    (O4 : Hid (w4.ownsRow P 33 2 (.slice (some ⟨g, 0, none⟩) (cs.length + 1) ncap) (cs.length + 1) ((cs.zip tvs).flatMap condCells ++ condCells ((0, [(zs, z)]), .slice (some ⟨wP.heap.size, 0, none⟩) 1 1))))
    (A4 : Hid ((Value.slice pc cs.length ccap).ownBlock = some g ∨ g = wP.heap.size + 1 + 1)) (HLen : Hid (l.length = k)) (HGd : Hid (∀ s ∈ l, goodSide s)) (HCl : Hid (cs.length = cl)) (hA : w0.heap.size + 3 ≤ P) (hB : B < w0.heap.size)
    (hOA : ∀ b, (Value.slice ps k scap).ownBlock = some b → b < P) (hP : P ≤ wP.heap.size) (hk : k ≤ 100) (hcl : cl ≤ 1000) (hM : m ≤ M) : Hid (ReadyA B M w0 (w4.setCell ⟨w0.heap.size + 1, 1, none⟩ (.slice (some ⟨g, 0, none⟩) (cs.length + 1) ncap))) := by
  have hterm : World.ownsRow (wP.alloc (.cells #[.string zs, .int .i64 z] 66)) wP.heap.size 66 2 (.slice (some ⟨wP.heap.size, 0, none⟩) 1 1) 1 ([(zs, z)].flatMap termCells) := owns_fresh _ _ _ _ _ rfl (by decide)
  have hz1 := HZ2.out
  have hC4 := (HCP.out.push (w1 := wP.alloc (.cells #[.string zs, .int .i64 z] 66)) (c := 0) (ts := [(zs, z)]) (B := B) (by omega) hP (grownBy_any _ (World.grownBy_alloc _ _ _)) hterm G4.out O4.out rfl (by rcases A4.out with h | h; exact .inl h; exact .inr (by simp; omega)) ⟨⟨by omega, by omega⟩, by simp, fun t ht => by obtain rfl := List.mem_singleton.1 ht; exact ⟨HZ.out, by simp only; constructor <;> omega⟩⟩).kept (grown_set _ (w0.heap.size + 1) 1 (.slice (some ⟨g, 0, none⟩) (cs.length + 1) ncap)) (fun k hk => by cases hk; omega)
  have hcl2 := HCl.out
  exact ready_of HLQ.out (setAt_of ((owns_keep2 HOP.out (grownBy_trans (grownBy_any _ (World.grownBy_alloc _ _ _)) G4.out) HCP.out hOA).kept (grown_set _ (w0.heap.size + 1) 1 _) (own_ne HOP.out (by omega))) HLen.out (by omega) HGd.out hC4 (by simp; omega) (by omega) hB) (by have := HLen.out; simp only; omega) hM rfl rfl

theorem case2_ready {M P k n g : Nat} {w0 wN wR : World} {l : List SideD} {cs : List CondD} {tvs : List Value} {ps : Option Addr} {scap : Nat} {cv : Value}
    (HLQ : Hid (LSt B m w0 (wR.setCell ⟨w0.heap.size + 1, 1, none⟩ (.slice (some ⟨g, 0, none⟩) (n * 40) (n * 40))) (.slice ps k scap) (.slice (some ⟨g, 0, none⟩) (n * 40) (n * 40))))
    (HON : Hid (wN.ownsRow (w0.heap.size + 3) 64 3 (.slice ps k scap) k (l.flatMap sideCells))) (HCN : Hid (CSt wN P cv cs tvs)) (HGR : Hid (wN.grownBy wR none))
    (HGC : Hid (∀ j, j < n * 40 * 2 → wR.cell? ⟨g, j, none⟩ = ((cs.zip tvs).flatMap condCells)[j % (n * 2)]?)) (HLen : Hid (l.length = k)) (HGd : Hid (∀ s ∈ l, goodSide s)) (hn : cs.length = n) (hnl : n ≤ 1000)
    (hA : w0.heap.size + 3 ≤ P) (hB : B < w0.heap.size) (hg : wN.heap.size ≤ g) (hP : P ≤ wN.heap.size) (hk : k ≤ 100) (hM : m ≤ M) : Hid (ReadyA B M w0 (wR.setCell ⟨w0.heap.size + 1, 1, none⟩ (.slice (some ⟨g, 0, none⟩) (n * 40) (n * 40)))) := by
  have hk2 := HLen.out
  subst hk2
  have hgs := grown_set wR (w0.heap.size + 1) 1 (.slice (some ⟨g, 0, none⟩) (n * 40) (n * 40))
  have hC := (HCN.out.kept HGR.out (fun k hk => by cases hk)).kept hgs (fun k hk => by cases hk; omega)
  have hO := (HON.out.kept HGR.out (Classical.em _)).kept hgs (own_ne HON.out (by omega))
  have hx := HCN.out.row.1
  rw [hn] at hx
  refine ready_of (S := (l, (List.replicate 40 cs).flatten)) HLQ.out (fun w1 w2 hw hw2 => ⟨sides_of_owns ((hO.kept hw (own_ne HON.out (by omega))).kept hw2 (own_ne HON.out (by omega))) (show l.length ≤ 1000000 by omega) HGd.out,
    conds_repeat ((hC.kept hw (fun k hk => by cases hk; omega)).kept hw2 (fun k hk => by cases hk; omega)) hn (by omega) (fun j hj => ?_)⟩) hk hM rfl rfl
  have hlt : j % (n * 2) < ((cs.zip tvs).flatMap condCells).length := by
    rw [hx]
    exact Nat.mod_lt _ (by omega)
  have e := HGC.out j hj
  obtain ⟨v, hv⟩ : ∃ v, ((cs.zip tvs).flatMap condCells)[j % (n * 2)]? = some v := ⟨_, List.getElem?_eq_getElem hlt⟩
  rw [hv] at e ⊢
  exact hw2.cell (hw.cell (hgs.cell e (by simp; omega)) (by simp; omega)) (by simp; omega)

theorem odd_from (B m : Nat) (low high : Int) (w W : World) (hg : w.grownBy W none) (hs : StreamAt w B m) (hm : m ≤ 1000000000000) (h1 : low ≤ high) (h2 : -100000000 ≤ low) (h3 : high ≤ 100000000) :
    Calls Tryz.prog 25 #[.pointer (some ⟨B, 0, none⟩), .int .i64 low, .int .i64 high] W (fun e w' => ∃ z : Int, -2000000000000 ≤ z ∧ z ≤ 2000000000000 ∧ e = .returned (.int .i64 z) ∧ Drawn B (m + 2) w w' ∧ W.grownBy w' (some B)) := by
  refine (odd_any B m low high W (hs.kept hg) hm h1 h2 h3).mono ?_
  rintro e w' ⟨z, hz1, hz2, rfl, hd⟩
  exact ⟨z, hz1, hz2, rfl, ⟨grownBy_trans (grownBy_any _ hg) hd.1, hd.2⟩, hd.1⟩

theorem case0_ready {M P k g ncap n c : Nat} {w0 wP w4 : World} {l : List SideD} {cs : List CondD} {tvs : List Value} {ps pc : Option Addr} {scap : Nat} {zs : ByteArray} {lo hi : Int}
    (HLQ : Hid (LSt B m w0 (w4.setCell ⟨w0.heap.size + 1, 0, none⟩ (.slice (some ⟨g, 0, none⟩) (k + 1) ncap)) (.slice (some ⟨g, 0, none⟩) (k + 1) ncap) (.slice pc n c)))
    (O4 : Hid (w4.ownsRow (w0.heap.size + 3) 64 3 (.slice (some ⟨g, 0, none⟩) (k + 1) ncap) (k + 1) (l.flatMap sideCells ++ sideCells (zs, lo, hi))))
    (HCP : Hid (CSt wP P (.slice pc n c) cs tvs)) (G4 : Hid ((wP.alloc (.cells #[.string zs, .int .i64 lo, .int .i64 hi] 64)).grownBy w4 (Value.slice ps k scap).ownBlock))
    (hOA : ∀ b, (Value.slice ps k scap).ownBlock = some b → b < P) (HLen : Hid (l.length = k)) (HGd : Hid (∀ s ∈ l, goodSide s)) (hz : goodSide (zs, lo, hi)) (hcl : cs.length ≤ 1000000)
    (hA : w0.heap.size + 3 ≤ P) (hB : B < w0.heap.size) (hk : k ≤ 99) (hM : m ≤ M) : Hid (ReadyA B M w0 (w4.setCell ⟨w0.heap.size + 1, 0, none⟩ (.slice (some ⟨g, 0, none⟩) (k + 1) ncap))) := by
  have hl0 := HLen.out
  have hl1 : (l ++ [(zs, lo, hi)]).length = k + 1 := by simp [hl0]
  have hO : World.ownsRow (w4.setCell ⟨w0.heap.size + 1, 0, none⟩ (.slice (some ⟨g, 0, none⟩) (k + 1) ncap)) (w0.heap.size + 3) 64 3 (.slice (some ⟨g, 0, none⟩) (k + 1) ncap) (k + 1) ((l ++ [(zs, lo, hi)]).flatMap sideCells) := by
    rw [List.flatMap_append]
    exact ownsRow_setCell_below O4.out (show w0.heap.size + 1 < w0.heap.size + 3 by omega) _
  have hC := (HCP.out.kept (grownBy_trans (grownBy_any _ (World.grownBy_alloc _ _ _)) G4.out) (fun b hb => hOA b hb)).kept (grown_set w4 (w0.heap.size + 1) 0 (.slice (some ⟨g, 0, none⟩) (k + 1) ncap)) (fun k hk => by cases hk; omega)
  refine ready_of HLQ.out (setAt_of hO hl1 (by omega) (fun s hs => ?_) hC hcl (by omega) hB) (show (l ++ [(zs, lo, hi)]).length ≤ 100 by rw [hl1]; omega) hM rfl rfl
  rcases List.mem_append.1 hs with hs | hs
  · exact HGd.out s hs
  · obtain rfl := List.mem_singleton.1 hs
    exact hz

end Go.Proofs.YtfilcaolgfghcaaGreat
