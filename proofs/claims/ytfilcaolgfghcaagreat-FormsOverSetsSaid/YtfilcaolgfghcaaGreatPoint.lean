/-
 isPoint: whether numbers are a point of a set.
-/
import Derived.Test.YtfilcaolgfghcaaGreatValue
import Derived.Deep.RegionHeld3
import Derived.Deep.DrawnRows
namespace Go.Proofs.YtfilcaolgfghcaaGreat
open Go.RowKit Go.Maps Go.WideMaps
attribute [local go_sem ↓] Go.wp_at_zero Go.wp_at_succ

/-- What the region's loads read: a form in a box, and a variable that holds a map. -/
def BoxAt (w : World) (F V Bx : Nat) (c : Int) (p : Option Addr) (n cap : Nat) : Prop :=
  w.cell? ⟨F, 0, none⟩ = some (.int .i64 c) ∧ w.cell? ⟨F, 1, none⟩ = some (.slice p n cap) ∧ w.cell? ⟨V, 0, none⟩ = some (.map (some Bx))
theorem BoxAt.kept {w w' : World} {F V Bx : Nat} {c : Int} {p : Option Addr} {n cap : Nat} (h : BoxAt w F V Bx c p n cap) (hg : w.grownBy w' none) : BoxAt w' F V Bx c p n cap :=
  ⟨hg.cell h.1 (by simp), hg.cell h.2.1 (by simp), hg.cell h.2.2 (by simp)⟩

def PolyBox (w0 : World) (F V Bx : Nat) (c : Int) (p : Option Addr) (cap : Nat) (ts : List (ByteArray × Int)) (e : Ending) (w' : World) : Prop :=
  ∃ (D : Table) (B n : Nat), e = .returned (.map (some B)) ∧ Hid (MapAt w' B n D) ∧ Hid (PolyD D c ts) ∧ Hid (w0.grownBy w' none) ∧ Hid (BoxAt w' F V Bx c p ts.length cap)

theorem poly_box (w0 w : World) (F V Bx : Nat) (c : Int) (ts : List (ByteArray × Int)) (p : Option Addr) (cap : Nat) (hg : w0.grownBy w none) (ht : TermsAt w0 (.slice p ts.length cap) ts) (hgood : formErr c ts = 0) (hb : BoxAt w F V Bx c p ts.length cap) :
    Calls Tryz.prog 54 #[.agg #[.int .i64 c, .slice p ts.length cap]] w (PolyBox w0 F V Bx c p cap ts) := by
  refine (polyOf_any c ts _ _ (ht.kept hg) hgood).mono ?_
  rintro e w1 ⟨D, B, n, rfl, hB, hM, hn, hP, hg1⟩
  exact ⟨D, B, n, rfl, hM, hP, grownBy_trans hg hg1, hb.kept hg1⟩

def ValueBox (w0 : World) (F V Bx : Nat) (c : Int) (p : Option Addr) (n cap : Nat) (v : Value) (e : Ending) (w' : World) : Prop :=
  e = .returned v ∧ Hid (w0.grownBy w' none) ∧ Hid (BoxAt w' F V Bx c p n cap)

theorem value_box (w0 w : World) (F V Bx nx Bp np : Nat) (c : Int) (ts : List (ByteArray × Int)) (X : ByteArray → Int) (D Dx : Table) (p : Option Addr) (cap : Nat) (hg : w0.grownBy w none) (hgood : formErr c ts = 0)
    (hM : MapAt w Bp np D) (hP : PolyD D c ts) (hV : MapAt w0 Bx nx Dx) (hX : VarsD Dx X ts) (hXb : ∀ s, -1000000 ≤ X s ∧ X s ≤ 1000000) (hb : BoxAt w F V Bx c p ts.length cap) :
    Calls Tryz.prog 55 #[.map (some Bp), .map (some Bx)] w (ValueBox w0 F V Bx c p ts.length cap (.int .i64 (valueOf X c ts))) := by
  refine (value_any c ts X D Dx Bp np Bx nx w hgood hM hP (World.ownsMap.kept hV hg (by simp)) hX hXb).mono ?_
  rintro e w2 ⟨rfl, hg2⟩
  exact ⟨rfl, grownBy_trans hg hg2, hb.kept hg2⟩

set_option maxRecDepth 100000 in
set_option maxHeartbeats 1000000 in
theorem below_zero (c : Int) (ts : List (ByteArray × Int)) (p : Option Addr) (cap V Bx nx : Nat) (X : ByteArray → Int) (Dx : Table) (w : World) (hgood : formErr c ts = 0) (ht : TermsAt w (.slice p ts.length cap) ts)
    (hv : w.cell? ⟨V, 0, none⟩ = some (.map (some Bx))) (hV : MapAt w Bx nx Dx) (hX : VarsD Dx X ts) (hXb : ∀ s, -1000000 ≤ X s ∧ X s ≤ 1000000) :
    Calls Tryz.prog 115 #[.agg #[.int .i64 c, .slice p ts.length cap], .pointer (some ⟨V, 0, none⟩)] w (GivesDrawn (.bool (decide (valueOf X c ts < 0))) w) := by
  have HT := Lib.hid ht
  have HV := Lib.hid hV
  have HX := Lib.hid hX
  have HB := Lib.hid hXb
  have HG := Lib.hid hgood
  have hbox : (w.alloc (.cells #[.int .i64 c, .slice p ts.length cap] 33)).cell? ⟨w.heap.size, 0, none⟩ = some (.int .i64 c) := by simp
  have hbox' : (w.alloc (.cells #[.int .i64 c, .slice p ts.length cap] 33)).cell? ⟨w.heap.size, 1, none⟩ = some (.slice p ts.length cap) := by simp
  have hv' : (w.alloc (.cells #[.int .i64 c, .slice p ts.length cap] 33)).cell? ⟨V, 0, none⟩ = some (.map (some Bx)) := (World.grownBy_alloc _ _ none).cell hv (by simp)
  have HBox : Hid (BoxAt (w.alloc (.cells #[.int .i64 c, .slice p ts.length cap] 33)).drew w.heap.size V Bx c p ts.length cap) := ⟨hbox, hbox', hv'⟩
  have HGr : Hid (w.grownBy (w.alloc (.cells #[.int .i64 c, .slice p ts.length cap] 33)).drew none) := grownBy_trans (World.grownBy_alloc _ _ _) ⟨rfl, rfl, rfl, Nat.le_refl _, fun _ _ _ => rfl⟩
  clear ht hV hX hXb hgood
  go_enter Tryz.func115, Tryz.ntmps115
  go_wp2
  go_region_held3 (fun w' => w'.cell? ⟨w.heap.size, 0, none⟩ = some (.int .i64 c) ∧ w'.cell? ⟨w.heap.size, 1, none⟩ = some (.slice p ts.length cap) ∧ w'.cell? ⟨V, 0, none⟩ = some (.map (some Bx))) (first | go_keep | exact HB1.out | exact HB2.out)
    (first
      | (go_at_call 54; refine (poly_box w _ w.heap.size V Bx c ts p cap HGr.out HT.out HG.out HBox.out).mono ?_; rintro e w1 ⟨D, B, n, rfl, HM, HP, HG1, HB1⟩)
      | (go_at_call 55; refine (value_box w _ w.heap.size V Bx nx B n c ts X D Dx p cap HG1.out HG.out HM.out HP.out HV.out HX.out HB.out HB1.out).mono ?_; rintro e w2 ⟨rfl, HG2, HB2⟩))
  go_wp2
  go_ret
  exact ⟨rfl, HG2.out⟩

def negB (X : ByteArray → Int) (f : CondD) : Bool := decide (valueOf X f.1 f.2 < 0)

def IndexNeg (X : ByteArray → Int) (l : List CondD) (w : World) (e : Ending) (w' : World) : Prop := ∃ k : Int, decide (0 ≤ k) = l.any (negB X) ∧ e = .returned (.int .i64 k) ∧ w.grownBy w' none

theorem any_snoc {α : Type} {q : α → Bool} {l : List α} {k : Nat} {a : α} (h : l[k]? = some a) : (l.take (k + 1)).any q = ((l.take k).any q || q a) := by
  obtain ⟨hk, rfl⟩ := List.getElem?_eq_some_iff.1 h
  rw [List.take_succ_eq_append_getElem hk, List.any_append]
  simp
theorem any_hit {α : Type} {q : α → Bool} {l : List α} {k : Nat} {a : α} (h : l[k]? = some a) (hq : q a = true) : l.any q = true := by
  obtain ⟨hk, rfl⟩ := List.getElem?_eq_some_iff.1 h
  exact List.any_eq_true.2 ⟨_, List.getElem_mem hk, hq⟩

/-- The values of the variables of a set's conditions lie in a variable. -/
structure VarsAt (w : World) (V : Nat) (X : ByteArray → Int) (l : List CondD) : Prop where
  good : ∀ f ∈ l, formErr f.1 f.2 = 0
  bound : ∀ s, -1000000 ≤ X s ∧ X s ≤ 1000000
  map : ∃ Bx nx Dx, w.cell? ⟨V, 0, none⟩ = some (.map (some Bx)) ∧ MapAt w Bx nx Dx ∧ ∀ f ∈ l, VarsD Dx X f.2

theorem VarsAt.kept {w w' : World} {V : Nat} {X : ByteArray → Int} {l : List CondD} (h : VarsAt w V X l) (hg : w.grownBy w' none) : VarsAt w' V X l := by
  obtain ⟨h1, h2, Bx, nx, Dx, h3, h4, h5⟩ := h
  exact ⟨h1, h2, Bx, nx, Dx, hg.cell h3 (by simp), World.ownsMap.kept h4 hg (by simp), h5⟩

theorem neg_any {w : World} {V : Nat} {X : ByteArray → Int} {l : List CondD} (h : VarsAt w V X l) (c : Int) (ts : List (ByteArray × Int)) (hm : (c, ts) ∈ l) (p : Option Addr) (cap : Nat) (ht : TermsAt w (.slice p ts.length cap) ts) :
    Calls Tryz.prog 115 #[.agg #[.int .i64 c, .slice p ts.length cap], .pointer (some ⟨V, 0, none⟩)] w (GivesDrawn (.bool (negB X (c, ts))) w) := by
  obtain ⟨h1, h2, Bx, nx, Dx, h3, h4, h5⟩ := h
  exact below_zero c ts p cap V Bx nx X Dx w (h1 _ hm) ht h3 h4 (h5 _ hm) h2

set_option maxRecDepth 100000 in
set_option maxHeartbeats 1000000 in
theorem indexFunc_any (v : Value) (l : List CondD) (V : Nat) (X : ByteArray → Int) (w : World) (hl : CondsAt w v l) (hV : VarsAt w V X l) :
    Calls Tryz.prog 136 #[v, .func (.func 115) #[] #[.pointer (some ⟨V, 0, none⟩)]] w (IndexNeg X l w) := by
  obtain ⟨p, cap, rfl, hlen, hc⟩ := hl
  have H := Lib.hid hc
  have HV := Lib.hid hV
  clear hc hV
  go_enter Tryz.func136, Tryz.ntmps136
  go_wp2
  go_loopw [8] (fun i wr => ∃ k : Nat, k ≤ l.length ∧ i = .int .i64 k ∧ Hid ((l.take k).any (negB X) = false) ∧ Hid (w.grownBy wr none)) (fun i _ => l.length - (intOf i).toNat)
  case atStart => exact ⟨0, Nat.zero_le _, rfl, rfl, grownBy_refl _ _⟩
  case round =>
    obtain ⟨k, hk, rfl, HR, HG⟩ := hrel
    by_cases hlt : k < l.length
    · have h0 := List.getElem?_eq_getElem hlt
      obtain ⟨b, off, tv, rfl, h1, h2, ⟨pt, ct, rfl, htl, htc⟩, h4, h5⟩ := (H.out k _ h0).kept HG.out
      have HS := Lib.hid (any_snoc (q := negB X) h0)
      have HH := Lib.hid (any_hit (q := negB X) h0)
      have HC := Lib.hid (neg_any (HV.out.kept HG.out) (l[k]).1 (l[k]).2 (List.getElem_mem hlt) pt ct ⟨pt, ct, rfl, htl, htc⟩)
      generalize hc : (l[k]).1 = c at *
      generalize hts : (l[k]).2 = ts at *
      have he : l[k] = (c, ts) := by rw [← hc, ← hts]
      rw [he] at HS HH
      clear htc h0 hc hts he
      go_wp2_with (first | (go_at_call 115; refine HC.out.mono ?_; rintro e w' ⟨rfl, hg1⟩; have G1 := Lib.hid hg1; clear hg1))
      · have he : negB X (c, ts) = true := by assumption
        go_ret
        exact ⟨k, by rw [HH.out he]; simp, rfl, grownBy_trans HG.out G1.out⟩
      · have he : negB X (c, ts) = false := by assumption
        go_roundw
        case rel => exact ⟨k + 1, by omega, by go_num, by show _ = _; rw [HS.out, HR.out, he]; rfl, grownBy_trans HG.out G1.out⟩
        case measure => simp [intOf]; omega
    · obtain rfl : k = l.length := by omega
      go_wp2
      go_ret
      exact ⟨-1, by have := HR.out; rw [List.take_length] at this; rw [this]; rfl, rfl, HG.out⟩

set_option maxHeartbeats 1000000 in
theorem containsFunc_any (v : Value) (l : List CondD) (V : Nat) (X : ByteArray → Int) (w : World) (hl : CondsAt w v l) (hV : VarsAt w V X l) :
    Calls Tryz.prog 114 #[v, .func (.func 115) #[] #[.pointer (some ⟨V, 0, none⟩)]] w (GivesDrawn (.bool (l.any (negB X))) w) := by
  have HL := Lib.hid hl
  have HV := Lib.hid hV
  clear hl hV
  go_enter Tryz.func114, Tryz.ntmps114
  go_wp2_with (go_at_call 136; refine (indexFunc_any v l V X _ HL.out HV.out).mono ?_; rintro e w' ⟨k, hk, rfl, hg⟩; have HK := Lib.hid hk; have HG := Lib.hid hg; clear hk hg)
  go_ret
  exact ⟨ret_bool HK.out, HG.out⟩

end Go.Proofs.YtfilcaolgfghcaaGreat
