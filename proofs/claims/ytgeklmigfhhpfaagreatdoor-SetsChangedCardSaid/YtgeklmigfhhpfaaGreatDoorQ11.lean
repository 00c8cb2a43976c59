/-
 checkName, checkNames. The law's own faults of names. errs and when, of the law's folder. A row divided. A row divided: the row itself, or new numbers. copy of elements of more than one cell. clear of elements of any number of cells. bits.Mul64 and bits.Mul. slices.Repeat of conditions. The conditions, forty times.
-/
import Derived.Laws.CopyOwn
import Derived.Shelf.Bits.Mul64
import Derived.WalkSpells
import Derived.IntWalk
import Derived.Deep.DeepMust
import Derived.Test.YtgeklmigfhhpfaaGreatDoorQ01
import Derived.Test.YtgeklmigfhhpfaaGreatDoorQ07
import Derived.Test.YtgeklmigfhhpfaaGreatDoorQ08
import Derived.Test.YtgeklmigfhhpfaaGreatDoorQ10
namespace Go.Proofs.YtgeklmigfhhpfaaGreatDoor
open Go.RowKit
attribute [local go_sem ↓] Go.wp_at_zero Go.wp_at_succ
theorem cO {w : World} {g : Nat} {a b : Value} {T : TypeId} (h : w.heap[g]? = some (.cells #[a, b] T (0, 0))) : w.cell? ⟨g, 0, none⟩ = some a ∧ w.cell? ⟨g, 1, none⟩ = some b ∧ ∀ k, w.frozen? ⟨g, k, none⟩ = false :=
 ⟨by unfold World.cell?; rw [h]; rfl, by unfold World.cell?; rw [h]; rfl, fun k => by simp [World.frozen?, h]⟩
theorem two_set {w : World} {R : Nat} {x y : Value} {T : TypeId} (hr : w.heap[R]? = some (.cells #[x, y] T (0, 0))) (a b : Value) :
  ((w.setCell ⟨R, 0, none⟩ a).setCell ⟨R, 1, none⟩ b).heap[R]? = some (.cells #[a, b] T (0, 0)) ∧ w.grownBy ((w.setCell ⟨R, 0, none⟩ a).setCell ⟨R, 1, none⟩ b) (some R) :=
 ⟨by simp [World.setCell, Array.getElem?_modify, hr], gT (gS _ _ _ _) (gS _ _ _ _)⟩
def nameErr (sn : List ByteArray) (x : ByteArray) : Int := if nameB x = true then (if containsB sn x = true then 0 else 8) else 5
def namesGo (sn : List ByteArray) : List ByteArray → List ByteArray → Int
 | _, [] => 0
 | pre, x :: r => if nameErr sn x = 0 then (if containsB pre x = true then 6 else namesGo sn (pre ++ [x]) r) else nameErr sn x
set_option maxHeartbeats 1000000 in
theorem checkName_any (x : ByteArray) (sv : Value) (l : List SideD) (w : World) (hx : x.size ≤ maxLen) (hs : SidesAt w sv l) :
  Calls Tryz.prog 104 #[.string x, sv] w (Gives (.int .i64 (nameErr (namesOf l) x)) w) := by
 obtain ⟨p, cap, rfl, ⟨hsl, hscc⟩, _⟩ := id hs
 have HN := uH hs
 clear hs
 cases hb : nameB x
 · have HB := uH hb
   clear hb
   go_enter Tryz.func104, Tryz.ntmps104
   go_wp2_with (first | (go_at_call 129; refine (affName_any x w hx).mono ?_; rintro e w1 ⟨rfl, hg1⟩; rw [HB.out]; have G1 := uH hg1; clear hg1))
   go_ret
   exact ⟨ret_i64 (by simp [nameErr, HB.out]), G1.out⟩
 · have HB := uH hb
   clear hb
   have hfn := firstI_none (sameName x) l
   rw [sameName_any] at hfn
   cases hc : containsB (namesOf l) x
   · have HC := uH hc
     rw [hc] at hfn
     simp only [Bool.not_false] at hfn
     clear hc
     go_enter Tryz.func104, Tryz.ntmps104
     go_wp2_with (first
      | (go_at_call 129; refine (affName_any x w hx).mono ?_; rintro e w1 ⟨rfl, hg1⟩; rw [HB.out]; have G1 := uH hg1; clear hg1)
      | (go_at_call 105; refine (placeOf_any x _ l _ (HN.out.kept G1.out)).mono ?_; rintro e w2 ⟨rfl, hg2⟩; have G2 := uH hg2; clear hg2))
     go_ret
     exact ⟨ret_i64 (by simp [nameErr, HB.out, HC.out]), gT G1.out G2.out⟩
   · have HC := uH hc
     rw [hc] at hfn
     simp only [Bool.not_true] at hfn
     clear hc
     go_enter Tryz.func104, Tryz.ntmps104
     go_wp2_with (first
      | (go_at_call 129; refine (affName_any x w hx).mono ?_; rintro e w1 ⟨rfl, hg1⟩; rw [HB.out]; have G1 := uH hg1; clear hg1)
      | (go_at_call 105; refine (placeOf_any x _ l _ (HN.out.kept G1.out)).mono ?_; rintro e w2 ⟨rfl, hg2⟩; have G2 := uH hg2; clear hg2))
     go_ret
     exact ⟨ret_i64 (by simp [nameErr, HB.out, HC.out]), gT G1.out G2.out⟩
theorem strs_prefix {w : World} {p : Option Addr} {n cap : Nat} {ns : List ByteArray} (h : StrsAt w (.slice p n cap) ns) (k : Nat) (hk : k ≤ ns.length) : StrsAt w (.slice p k cap) (ns.take k) := by
 obtain ⟨p', cap', hv, hl, hc⟩ := h
 obtain ⟨rfl, rfl, rfl⟩ := Value.slice.inj hv
 have e : (ns.take k).length = k := by simp; omega
 refine ⟨p, cap, by rw [e], by omega, fun j s hj => hc j s ?_⟩
 have hj2 := (List.getElem?_eq_some_iff.1 hj).1
 rw [List.getElem?_take, if_pos (by omega)] at hj
 exact hj
end Go.Proofs.YtgeklmigfhhpfaaGreatDoor
namespace Go.Proofs.YtgeklmigfhhpfaaGreatDoor
open Go.RowKit
attribute [local go_sem ↓] Go.wp_at_zero Go.wp_at_succ
set_option maxHeartbeats 1000000 in
theorem nameFault_any (s : ByteArray) (w : World) (hs : s.size ≤ maxLen) :
  Calls Tryz.prog 70 #[.string s] w (Gives (.int .i64 (if nameB s = true then 0 else 5)) w) := by
 cases hb : nameB s
 · have HB := uH hb
   clear hb
   go_enter Tryz.func70, Tryz.ntmps70
   go_wp2_with (go_at_call 39; refine (name_any s w hs).mono ?_; rintro e w1 ⟨rfl, hg1⟩; rw [HB.out]; have G1 := uH hg1; clear hg1)
   go_ret
   exact ⟨rfl, G1.out⟩
 · have HB := uH hb
   clear hb
   go_enter Tryz.func70, Tryz.ntmps70
   go_wp2_with (go_at_call 39; refine (name_any s w hs).mono ?_; rintro e w1 ⟨rfl, hg1⟩; rw [HB.out]; have G1 := uH hg1; clear hg1)
   go_ret
   exact ⟨rfl, G1.out⟩
set_option maxHeartbeats 400000 in
theorem fault1_any (n x : ByteArray) (lo hi : Int) (P : Nat) (w : World) (hp : w.cell? ⟨P, 0, none⟩ = some (.string x)) :
  Calls Tryz.prog 72 #[.agg #[.string n, .int .i64 lo, .int .i64 hi], .pointer (some ⟨P, 0, none⟩)] w (Gives (.bool (n.toList == x.toList)) w) := by
 have hp' := (gA w (.cells #[.string n, .int .i64 lo, .int .i64 hi] 63) none).cell hp (by simp)
 clear hp
 go_enter Tryz.func72, Tryz.ntmps72
 go_wp2
 all_goals
  go_ret
  exact ⟨ret_bool (by simp [*]), gA _ _ _⟩
set_option maxRecDepth 100000 in
set_option maxHeartbeats 1000000 in
theorem indexFault_any (v : Value) (l : List SideD) (x : ByteArray) (P : Nat) (w : World) (hl : SidesAt w v l) (hp : w.cell? ⟨P, 0, none⟩ = some (.string x)) :
  Calls Tryz.prog 115 #[v, .func (.func 72) #[] #[.pointer (some ⟨P, 0, none⟩)]] w (Gives (.int .i64 (firstI (sameName x) l)) w) := by
 obtain ⟨p, cap, rfl, ⟨hlen, _⟩, hc⟩ := hl
 have H := uH hc
 have HP := uH hp
 clear hc hp
 go_enter Tryz.func115, Tryz.ntmps115
 go_wp2
 go_loopw [8] (fun i wr => ∃ k : Nat, k ≤ l.length ∧ i = .int .i64 k ∧ Hid ((l.take k).any (sameName x) = false) ∧ Hid (w.grownBy wr none)) (fun i _ => l.length - (intOf i).toNat)
 case atStart => exact ⟨0, Nat.zero_le _, rfl, rfl, gR _ _⟩
 case round =>
  obtain ⟨k, hk, rfl, HR, HG⟩ := hrel
  by_cases hlt : k < l.length
  · have h0 := List.getElem?_eq_getElem hlt
    obtain ⟨b, off, rfl, h3, ⟨h4, h4'⟩, ⟨h5, h5'⟩, h6, h7, h8⟩ := (H.out k _ h0).kept HG.out
    have HS := uH (any_snoc (q := sameName x) h0)
    have HH := uH (fun hq => firstI_hit (q := sameName x) h0 HR.out hq)
    have HC := uH (fault1_any (l[k]).1 x (l[k]).2.1 (l[k]).2.2 P wr (HG.out.cell HP.out (by simp)))
    have HE := uH (show sameName x l[k] = ((l[k]).1.toList == x.toList) from rfl)
    generalize hn : (l[k]).1 = n at *
    generalize hlo : (l[k]).2.1 = lo at *
    generalize hhi : (l[k]).2.2 = hi' at *
    clear h0 hn hlo hhi
    go_wp2_with (first | (go_at_call 72; refine HC.out.mono ?_; rintro e w' ⟨rfl, hg1⟩; have G1 := uH hg1; clear hg1))
    · have he : (n.toList == x.toList) = true := by assumption
      go_ret
      exact ⟨ret_i64 (HH.out (by rw [HE.out, he])).symm, gT HG.out G1.out⟩
    · have he : (n.toList == x.toList) = false := by assumption
      go_roundw
      case rel => exact ⟨k + 1, by omega, by go_num, by show _ = _; rw [HS.out, HR.out, HE.out, he]; rfl, gT HG.out G1.out⟩
      case measure => simp [intOf]; omega
  · obtain rfl : k = l.length := by omega
    go_wp2
    go_ret
    exact ⟨ret_i64 (firstI_miss (by have := HR.out; rwa [List.take_length] at this)).symm, HG.out⟩
set_option maxHeartbeats 1000000 in
theorem containsFault_any (v : Value) (l : List SideD) (x : ByteArray) (P : Nat) (w : World) (hl : SidesAt w v l) (hp : w.cell? ⟨P, 0, none⟩ = some (.string x)) :
  Calls Tryz.prog 71 #[v, .func (.func 72) #[] #[.pointer (some ⟨P, 0, none⟩)]] w (Gives (.bool (containsB (namesOf l) x)) w) := by
 have HL := uH hl
 have HP := uH hp
 have HF := uH ((firstI_any (sameName x) l).trans (sameName_any x l))
 clear hl hp
 go_enter Tryz.func71, Tryz.ntmps71
 go_wp2_with (go_at_call 115; refine (indexFault_any v l x P w HL.out HP.out).mono ?_; rintro e w1 ⟨rfl, hg1⟩; have G1 := uH hg1; clear hg1)
 go_ret
 exact ⟨ret_bool HF.out, G1.out⟩
set_option maxRecDepth 100000 in
set_option maxHeartbeats 4000000 in
theorem namesFault_any (S : List SideD × List CondD) (ns : List ByteArray) (sv cv nv : Value) (w : World) (hS : SetAt w sv cv S) (hn : StrsAt w nv ns) (hx : ∀ s ∈ ns, s.size ≤ maxLen) (hcap : ∃ p cap, nv = .slice p ns.length cap ∧ ns.length ≤ cap) :
  Calls Tryz.prog 22 #[.agg #[sv, cv], nv] w (Gives (.int .i64 (namesGo (namesOf S.1) [] ns)) w) := by
 obtain ⟨⟨p, cap, rfl, ⟨hsl, hscc⟩, hsc⟩, ⟨pc, ccap, rfl, hcl, hcc⟩⟩ := id hS
 obtain ⟨pl, lcap, rfl, hlcap⟩ := hcap
 obtain ⟨_, _, _, hnl, hnc⟩ := id hn
 have hnm := hnl
 unfold maxLen at hnm
 have HS := uH hS.1
 have HN := uH hn
 have HX := uH hx
 clear hS hn hsc hcc hnc hx
 go_enter Tryz.func22, Tryz.ntmps22
 go_wp2
 have HB := uH (gA w (.cells #[.slice p S.1.length cap, .slice pc S.2.length ccap] 29) none)
 have HA := uH (cO (heap_alloc_new w (.cells #[.slice p S.1.length cap, .slice pc S.2.length ccap] 29)))
 generalize w.alloc (.cells #[.slice p S.1.length cap, .slice pc S.2.length ccap] 29) = w1 at *
 go_loopw [9] (fun i wr => ∃ k : Nat, k ≤ ns.length ∧ i = .int .i64 k ∧ Hid (namesGo (namesOf S.1) (ns.take k) (ns.drop k) = namesGo (namesOf S.1) [] ns) ∧ Hid (w1.grownBy wr none)) (fun i _ => ns.length - (intOf i).toNat)
 case atStart => exact ⟨0, Nat.zero_le _, rfl, rfl, gR _ _⟩
 case round =>
  obtain ⟨k, hk, rfl, HR, HG⟩ := hrel
  by_cases hlt : k < ns.length
  · have HD := uH (List.drop_eq_getElem_cons hlt)
    have HT := uH (List.take_succ_eq_append_getElem hlt)
    have hxk := HX.out _ (List.getElem_mem hlt)
    have h0 := List.getElem?_eq_getElem hlt
    have HGw := uH (gT HB.out HG.out)
    obtain ⟨p', cap', hv, _, hc⟩ := HN.out.kept HGw.out
    obtain ⟨rfl, _, rfl⟩ := Value.slice.inj hv
    obtain ⟨b, off, rfl, h3⟩ := hc k _ h0
    have HPre := uH (strs_prefix HN.out k hk)
    have hki : (k : Int) ≤ (lcap : Int) := by omega
    have a0 := HG.out.cell HA.out.1 (by simp)
    generalize ns[k] = x at *
    have a0a := (gA wr (.cells #[.string x] 9) none).cell a0 (by simp)
    clear h0 hc hv
    have HE5 := uH (fun h : nameB x = false => show nameErr (namesOf S.1) x = 5 by simp [nameErr, h])
    cases hb : nameB x
    · have HBx := uH hb
      clear hb
      go_wp2_with (first
       | (go_at_call 70; go_must (refine (nameFault_any x _ hxk).mono ?_; rintro e w2 ⟨rfl, hg2⟩; rw [HBx.out]; simp only [Bool.false_eq_true, if_false]; have G2 := uH hg2; clear hg2)))
      go_ret
      exact ⟨ret_i64 (by rw [← HR.out, HD.out]; simp [namesGo, HE5.out HBx.out]), gT HGw.out (gT (gA _ _ _) G2.out)⟩
    · have HBx := uH hb
      clear hb
      cases hcn : containsB (namesOf S.1) x
      · have HC := uH hcn
        clear hcn
        go_wp2_with (first
         | (go_at_call 70; go_must (refine (nameFault_any x _ hxk).mono ?_; rintro e w2 ⟨rfl, hg2⟩; rw [HBx.out]; simp only [if_true]; have G2 := uH (gT (gA wr (.cells #[.string x] 9) none) hg2); have m2 := hg2.cell (show (wr.alloc (.cells #[.string x] 9)).cell? ⟨wr.heap.size, 0, none⟩ = some (.string x) by simp) (by simp); have a02 := hg2.cell a0a (by simp); clear hg2))
         | (go_at_call 71; go_must (refine (containsFault_any _ S.1 x wr.heap.size _ (HS.out.kept (gT HGw.out G2.out)) m2).mono ?_; rintro e w3 ⟨rfl, hg3⟩; rw [HC.out]; have G3 := uH (gT G2.out hg3); have m3 := hg3.cell m2 (by simp); clear hg3)))
        go_ret
        exact ⟨ret_i64 (by rw [← HR.out, HD.out]; simp [namesGo, nameErr, HBx.out, HC.out]), gT HGw.out G3.out⟩
      · have HC := uH hcn
        clear hcn
        have HEz := uH (show nameErr (namesOf S.1) x = 0 by simp [nameErr, HBx.out, HC.out])
        go_wp2_with (first
         | (go_at_call 70; go_must (refine (nameFault_any x _ hxk).mono ?_; rintro e w2 ⟨rfl, hg2⟩; rw [HBx.out]; simp only [if_true]; have G2 := uH (gT (gA wr (.cells #[.string x] 9) none) hg2); have m2 := hg2.cell (show (wr.alloc (.cells #[.string x] 9)).cell? ⟨wr.heap.size, 0, none⟩ = some (.string x) by simp) (by simp); have a02 := hg2.cell a0a (by simp); clear hg2))
         | (go_at_call 71; go_must (refine (containsFault_any _ S.1 x wr.heap.size _ (HS.out.kept (gT HGw.out G2.out)) m2).mono ?_; rintro e w3 ⟨rfl, hg3⟩; rw [HC.out]; have G3 := uH (gT G2.out hg3); have m3 := hg3.cell m2 (by simp); clear hg3)))
        cases hin : containsB (ns.take k) x
        · have HIn := uH hin
          clear hin
          go_region_law (first
           | (go_simp; go_at_call 40; go_must (refine (contains_any _ (ns.take k) x _ (by first | exact HPre.out.kept (gT HGw.out G3.out) | exact HPre.out.kept (gT HGw.out (gT G3.out (grown_d _ none))))).mono ?_; rintro e w4 ⟨rfl, rfl⟩; rw [HIn.out])))
          all_goals
           go_wp2
           go_roundw
           case rel => exact ⟨k + 1, by omega, by go_num, by show _ = _; rw [← HR.out, HD.out, HT.out]; simp [namesGo, HEz.out, HIn.out], gT HG.out (gT G3.out (grown_d _ none))⟩
           case measure => simp [intOf]; omega
        · have HIn := uH hin
          clear hin
          go_region_law (first
           | (go_simp; go_at_call 40; go_must (refine (contains_any _ (ns.take k) x _ (by first | exact HPre.out.kept (gT HGw.out G3.out) | exact HPre.out.kept (gT HGw.out (gT G3.out (grown_d _ none))))).mono ?_; rintro e w4 ⟨rfl, rfl⟩; rw [HIn.out])))
          all_goals
           go_wp2
           go_ret
           exact ⟨ret_i64 (by rw [← HR.out, HD.out]; simp [namesGo, HEz.out, HIn.out]), gT HGw.out (gT G3.out (grown_d _ none))⟩
  · obtain rfl : k = ns.length := by omega
    go_wp2
    go_ret
    exact ⟨ret_i64 (by rw [← HR.out, List.drop_length]; simp [namesGo]), gT HB.out HG.out⟩
end Go.Proofs.YtgeklmigfhhpfaaGreatDoor
namespace Go.Proofs.YtgeklmigfhhpfaaGreatDoor
open Go.RowKit
attribute [local go_sem ↓] Go.wp_at_zero Go.wp_at_succ
theorem whenLaw_any (b : Bool) (e0 : Int) (w : World) : Calls Tryz.prog 15 #[.bool b, .int .i64 e0] w (Gives (.int .i64 (if b = true then e0 else 0)) w) := by
 cases b
 all_goals
  go_enter Tryz.func15, Tryz.ntmps15
  go_wp2
  go_ret
  exact ⟨rfl, gR _ _⟩
def errTwo (a b : Int) : Int := if a = 0 then b else a
set_option maxRecDepth 100000 in
set_option maxHeartbeats 1000000 in
theorem errs_any (a b : Int) (P : Nat) (w : World) (ha : w.cell? ⟨P, 0, none⟩ = some (.int .i64 a)) (hb : w.cell? ⟨P, 1, none⟩ = some (.int .i64 b)) :
  Calls Tryz.prog 14 #[.slice (some ⟨P, 0, none⟩) 2 2] w (Gives (.int .i64 (errTwo a b)) w) := by
 go_enter Tryz.func14, Tryz.ntmps14
 go_wp2
 go_loopw [7] (fun i wr => ∃ k : Nat, k ≤ 2 ∧ i = .int .i64 k ∧ wr = w ∧ (1 ≤ k → a = 0) ∧ (2 ≤ k → b = 0)) (fun i _ => 2 - (intOf i).toNat)
 case atStart => exact ⟨0, by omega, rfl, rfl, fun h => by omega, fun h => by omega⟩
 case round =>
  obtain ⟨k, hk, rfl, rfl, h1, h2⟩ := hrel
  by_cases hlt : k < 2
  · rcases (show k = 0 ∨ k = 1 by omega) with rfl | rfl
    · by_cases hz : a = 0
      · subst hz
        go_wp2
        go_roundw
        case rel => exact ⟨1, by omega, by go_num, by trivial, fun _ => by trivial, fun h => by omega⟩
        case measure => simp [intOf]
      · have hz0 : (a != 0) = true := by simp [hz]
        go_wp2
        go_ret
        exact ⟨ret_i64 (by simp [errTwo, hz]), gR _ _⟩
    · obtain rfl := h1 (by omega)
      by_cases hz : b = 0
      · subst hz
        go_wp2
        go_roundw
        case rel => exact ⟨2, by omega, by go_num, by trivial, fun _ => by trivial, fun _ => by trivial⟩
        case measure => simp [intOf]
      · have hz0 : (b != 0) = true := by simp [hz]
        go_wp2
        go_ret
        exact ⟨ret_i64 (by simp [errTwo]), gR _ _⟩
  · obtain rfl : k = 2 := by omega
    obtain rfl := h1 (by omega)
    obtain rfl := h2 (by omega)
    go_wp2
    go_ret
    exact ⟨ret_i64 (by simp [errTwo]), gR _ _⟩
end Go.Proofs.YtgeklmigfhhpfaaGreatDoor
namespace Go.Proofs.YtgeklmigfhhpfaaGreatDoor
open Go.RowKit
attribute [local go_sem ↓] Go.wp_at_zero Go.wp_at_succ
def BoxRes (w wr : World) (B : Nat) (c : Int) (cv : Value) : Prop :=
 w.grownBy wr none ∧ wr.heap[B]? = some (.cells #[.int .i64 c, cv] 86 (0, 0)) ∧ wr.heap[B + 1]? = some (.cells #[.int .i64 0, .slice none 0 0] 86 (0, 0))
theorem BoxRes.kept {w wr w' : World} {B : Nat} {c : Int} {cv : Value} (h : BoxRes w wr B c cv) (hg : wr.grownBy w' none) : BoxRes w w' B c cv := ⟨gT h.1 hg, kH h.2.1 hg (by simp), kH h.2.2 hg (by simp)⟩
theorem BoxRes.start (w : World) (c : Int) (cv : Value) : BoxRes w ((w.alloc (.cells #[.int .i64 c, cv] 86)).alloc (.cells #[.int .i64 0, .slice none 0 0] 86)) w.heap.size c cv := by
 refine ⟨gT (gA _ _ _) (gA _ _ _), ?_, ?_⟩
 · show ((w.heap.push _).push _)[w.heap.size]? = _
   simp only [Array.getElem?_push, Array.size_push]
   rw [if_neg (by omega), if_pos trivial]
 · show ((w.heap.push _).push _)[w.heap.size + 1]? = _
   simp only [Array.getElem?_push, Array.size_push]
   rw [if_pos trivial]
theorem mid_near {x : Int} (h : mid x) : near64 x := by unfold mid at h; unfold near64; omega
theorem gcdL_mid {cs : List Int} (h : ∀ c ∈ cs, mid c) : gcdL cs ≤ 1000000000 := gcdL_le fun c hc => by have := h c hc; unfold mid at this; omega
def quosTo (g : Int) (cs : List Int) (k : Nat) : List Int := (cs.map fun c => c / g).take k ++ List.replicate (cs.length - k) 0
theorem quosTo_next (g : Int) {cs : List Int} {k : Nat} (h : k < cs.length) : quosTo g cs (k + 1) = (quosTo g cs k).set k (cs[k] / g) := by
 unfold quosTo
 have hz : (cs.map fun c => c / g)[k]? = some (cs[k] / g) := by
  rw [List.getElem?_map, List.getElem?_eq_getElem h]
  rfl
 obtain ⟨hk, e⟩ := List.getElem?_eq_some_iff.1 hz
 rw [List.take_succ_eq_append_getElem hk, e, show cs.length - k = (cs.length - (k + 1)) + 1 by omega, List.replicate_succ, List.set_append_right _ _ (by rw [List.length_take]; omega), List.length_take, Nat.min_eq_left (by omega), Nat.sub_self, List.set_cons_zero, List.append_assoc]
 rfl
theorem quosTo_all (g : Int) (cs : List Int) : quosTo g cs cs.length = cs.map fun c => c / g := by
 unfold quosTo
 rw [List.take_of_length_le (by simp), Nat.sub_self]
 simp
end Go.Proofs.YtgeklmigfhhpfaaGreatDoor
namespace Go.Proofs.YtgeklmigfhhpfaaGreatDoor
open Go.RowKit
attribute [local go_sem ↓] Go.wp_at_zero Go.wp_at_succ
def RowFromC (r : RowD) (cv : Value) (r' : RowD) (w : World) (e : Ending) (w' : World) : Prop :=
 w.grownBy w' none ∧ ((r' = r ∧ e = .returned (.agg #[.int .i64 r.1, cv])) ∨ RowOfPost r'.1 r'.2.length r'.2 w e w')
theorem rowFromC_post {r : RowD} {cv : Value} {c : Int} {cs : List Int} {w w' : World} {e : Ending} (h : RowOfPost c cs.length cs w e w') : RowFromC r cv (c, cs) w e w' := by
 obtain ⟨Cb, rfl, hC, hc, hg⟩ := h
 exact ⟨hg, .inr ⟨Cb, rfl, hC, hc, hg⟩⟩
set_option maxRecDepth 100000 in
set_option maxHeartbeats 4000000 in
theorem divided_two (r : RowD) (rv : Value) (w : World) (hr : IntsAt w rv r.2) (hn : r.2.length ≤ 1000) (hr1 : -1000000000000 ≤ r.1 ∧ r.1 ≤ 1000000000000) (hrs : ∀ x ∈ r.2, mid x) :
  Calls Tryz.prog 101 #[.agg #[.int .i64 r.1, rv]] w (RowFromC r rv (divR r) w) := by
 obtain ⟨pr, rcap, rfl, hrl, hrc⟩ := id hr
 have HR := uH hrc
 have HI := uH hr
 have HRs := uH hrs
 have HR1 := uH hr1
 have hg9 := gcdL_mid hrs
 have hmk := run_make_ints r.2.length (by omega)
 clear hr hrc hrs hr1
 obtain ⟨rn, rs⟩ := r
 simp only at *
 go_enter Tryz.func101, Tryz.ntmps101
 go_upto_region 2 with fail
 have HB := uH (BoxRes.start w rn (.slice pr rs.length rcap))
 generalize (w.alloc (.cells #[.int .i64 rn, .slice pr rs.length rcap] 86)).alloc (.cells #[.int .i64 0, .slice none 0 0] 86) = w1 at *
 have b1 := (cell_two HB.out.2.1).2
 go_wp2
 go_loopw [3, 12] (fun g i wr => ∃ k : Nat, k ≤ rs.length ∧ i = .int .i64 k ∧ g = .int .i64 (gcdL (rs.take k) : Int) ∧ Hid (BoxRes w wr w.heap.size rn (.slice pr rs.length rcap))) (fun _ i _ => rs.length - (intOf i).toNat)
 case atStart => exact ⟨0, Nat.zero_le _, rfl, by simp [gcdL], HB.out⟩
 case round =>
  obtain ⟨k, hk, rfl, rfl, HB⟩ := hrel
  by_cases hlt : k < rs.length
  · have h0 := List.getElem?_eq_getElem hlt
    obtain ⟨bb, oo, rfl, hx1, c1⟩ := HR.out k _ h0
    have c1' := HB.out.1.cell c1 (by simp)
    have HSn := uH (show gcdL (rs.take (k + 1)) = Int.gcd (gcdL (rs.take k) : Int) rs[k] by rw [List.take_succ_eq_append_getElem hlt, gcdL_snoc]; rfl)
    have n1 := mid_near (HRs.out _ (List.getElem_mem hlt))
    have n2 : near64 (gcdL (rs.take k) : Int) := by
     have := gcdL_mid (cs := rs.take k) fun c hc => HRs.out c (List.mem_of_mem_take hc)
     unfold near64
     omega
    generalize rs[k] = x at *
    generalize gcdL (rs.take k) = g at *
    have hI1 : (k : Int) < (rs.length : Int) := by omega
    clear h0 c1
    go_wp2_with (go_at_call 134; go_must (refine (common_any _ _ _ n2 n1).mono ?_; rintro e w2 ⟨rfl, hg⟩; have HB2 := uH (HB.out.kept hg); clear hg))
    go_roundw
    case rel => exact ⟨k + 1, by omega, by go_num, by rw [HSn.out], HB2.out⟩
    case measure => simp [intOf]; omega
  · obtain rfl : k = rs.length := by omega
    rw [List.take_length]
    by_cases hz : gcdL rs = 0
    · have HZ := uH hz
      have hz0 : ((gcdL rs : Int) == 0) = true := by simp [hz]
      obtain ⟨b0, b1⟩ := cell_two HB.out.2.1
      obtain ⟨s0, s1⟩ := cell_two HB.out.2.2
      have sf : ∀ k, wr.frozen? ⟨w.heap.size + 1, k, none⟩ = false := fun k => by simp [World.frozen?, HB.out.2.2]
      clear hz
      go_wp2
      obtain ⟨f1, f2⟩ := two_set HB.out.2.2 (.int .i64 rn) (.slice pr rs.length rcap)
      have hg := gO HB.out.1 f2 (fun k hk => by cases hk; omega)
      refine bodyPost_end (results_cell_row rfl _ _ (w.heap.size + 1) _ _ _ _ rfl f1 Tryz.underlying86 rfl Tryz.infoRow2) rfl ?_
      have e : divR (rn, rs) = (rn, rs) := by unfold divR; rw [if_pos HZ.out]
      rw [e]
      exact ⟨hg, .inl ⟨rfl, rfl⟩⟩
    · have hz0 : ((gcdL rs : Int) == 0) = false := by simpa using hz
      have hgp : (0 : Int) < (gcdL rs : Int) := by omega
      have hgn : near64 (gcdL rs : Int) := by unfold near64; omega
      have HDv := uH (fun c (hc : c ∈ rs) => gcdL_dvd hc)
      have HZ := uH hz
      have HGp := uH hgp
      have hcon := fun W => floor_any rn (gcdL rs : Int) W (by have h := HR1.out; unfold near64; omega) hgp hgn
      have HE := uH (show divR (rn, rs) = (rn / (gcdL rs : Int), rs.map fun c => c / (gcdL rs : Int)) by unfold divR; rw [if_neg hz])
      generalize (gcdL rs : Int) = g at *
      obtain ⟨b0, b1⟩ := cell_two HB.out.2.1
      have HCon := uH hcon
      have hsz : wr.heap.size = wr.heap.size := rfl
      clear hcon
      go_upto_region 9 with fail
      go_cut [6] (fun s6 wx => ∃ Rb Cb : Nat, s6 = .pointer (some ⟨Rb, 0, none⟩) ∧ Hid (MadeR w wx (w.heap.size + 1) Rb Cb (rn / g) rs.length (List.replicate rs.length 0)) ∧ Hid (wx.cell? ⟨w.heap.size, 1, none⟩ = some (.slice pr rs.length rcap)))
      case first =>
       go_region_held3 (fun W => W.cell? ⟨w.heap.size, 0, none⟩ = some (.int .i64 rn) ∧ W.cell? ⟨w.heap.size, 1, none⟩ = some (.slice pr rs.length rcap)) (go_keep) (first
        | (go_at_call 135; refine (HCon.out _).mono ?_; rintro e w2 ⟨rfl, rfl⟩))
       all_goals
        go_wp2_with fail
        go_meet
        case rel => first
         | exact ⟨_, _, rfl, madeR_a _ _ HB.out.1 (by omega) HB.out.2.2 rfl, (gT (gA _ _ _) (grown_ad _ _ none)).cell b1 (by simp)⟩
         | exact ⟨_, _, rfl, madeR_b _ _ HB.out.1 (by omega) HB.out.2.2 rfl, (gT (gA _ _ _) (grown_ad _ _ none)).cell b1 (by simp)⟩
      case rest =>
       obtain ⟨Rb, Cb, rfl, HM, HC1⟩ := hcut
       clear HB b0 b1
       have b1 := HC1.out
       go_wp2
       go_loopw [35] (fun i wv => ∃ k : Nat, k ≤ rs.length ∧ i = .int .i64 k ∧ Hid (MadeR w wv (w.heap.size + 1) Rb Cb (rn / g) rs.length (quosTo g rs k)) ∧ Hid (wv.cell? ⟨w.heap.size, 1, none⟩ = some (.slice pr rs.length rcap))) (fun i _ => rs.length - (intOf i).toNat)
       case atStart => exact ⟨0, Nat.zero_le _, rfl, HM.out, HC1.out⟩
       case round =>
        obtain ⟨k, hk, rfl, HM, HC1⟩ := hrel
        by_cases hlt : k < rs.length
        · have h0 := List.getElem?_eq_getElem hlt
          obtain ⟨bb, oo, rfl, hx1, c1⟩ := HR.out k _ h0
          have c1' := HM.out.grown.cell c1 (by simp)
          have HSt := uH (quosTo_next g hlt)
          have hdv := HDv.out _ (List.getElem_mem hlt)
          have hq := Int.tdiv_eq_ediv_of_dvd hdv
          have d1 := HC1.out
          have r1 := HM.out.r1
          obtain ⟨x0, e1, e2⟩ := HM.out.cell (q := k) (by rw [HM.out.len]; exact hlt)
          have hxn := tdiv_near (b := g) (mid_near (HRs.out _ (List.getElem_mem hlt)))
          generalize rs[k] = x at *
          have hI1 : (k : Int) < (rs.length : Int) := by omega
          have hI0 : (0 : Int) ≤ (k : Int) := by omega
          have hg0 : g ≠ 0 := by have := HGp.out; omega
          unfold near64 at hxn
          rw [hq] at hxn
          clear h0 c1 hdv
          go_wp2
          go_still_tail 7, (by kernel_rfl)
          change wpList _ _ _ _ _ wr.drew
          have e1' : wr.drew.cell? ⟨Cb, k, none⟩ = some (.int .i64 x0) := e1
          have e2' : wr.drew.frozen? ⟨Cb, k, none⟩ = false := e2
          rw [wrap_near (x := x / g) (by omega)]
          go_wp2
          go_roundw
          case rel =>
           refine ⟨k + 1, by omega, by go_num, ?_, (gS _ Cb k _).cell (a := ⟨w.heap.size, 1, none⟩) d1 (by have := HM.out.newC; simp; omega)⟩
           show MadeR _ _ _ _ _ _ _ _
           rw [HSt.out]
           exact (HM.out.kept (grown_d _ _)).set k _
          case measure => simp [intOf]; omega
        · obtain rfl : k = rs.length := by omega
          have r0 := HM.out.r0
          have r1 := HM.out.r1
          have s0 := HM.out.s0
          have s1 := HM.out.s1
          have sf := HM.out.sf
          go_wp2
          have hm := HM.out
          rw [quosTo_all] at hm
          obtain ⟨f1, f2⟩ := madeR_end hm
          refine bodyPost_end (results_cell_row rfl _ _ (w.heap.size + 1) _ _ _ _ rfl f1 Tryz.underlying86 rfl Tryz.infoRow2) rfl ?_
          have e : divR (rn, rs) = (rn / g, rs.map fun c => c / g) := HE.out
          rw [e]
          exact rowFromC_post (by rw [List.length_map]; exact f2)
end Go.Proofs.YtgeklmigfhhpfaaGreatDoor
namespace Go.Proofs.YtgeklmigfhhpfaaGreatDoor
open Go.RowKit
theorem run_copy_wide {P : Program} (w : World) (dT sT ty elem : TypeId) (size n : Nat) (g o dLen dCap : Nat) (a : Addr) (sLen sCap : Nat) (cur : Array Value) (t : TypeId) (cs : List Value)
  (hu : P.underlying dT = some (.slice elem)) (hs : (P.info? elem).map (·.size) = some size)
  (hg : w.heap[g]? = some (.cells cur t (0, 0))) (hn : Nat.min sLen dLen = n) (hc : cs.length = n * size)
  (hsrc : ∀ j v, cs[j]? = some v → w.cell? (a.add j) = some v) (hfit : o + cs.length ≤ cur.size) (h1 : ∀ v ∈ cs, v.oneCell' = true) :
  (Builtin.copy_ #[dT, sT] ty #[.slice (some ⟨g, o, none⟩) dLen dCap, .slice (some a) sLen sCap]).run P w =
    .ok (goInt n) (w.setRow g (cur.toList.take o ++ cs ++ cur.toList.drop (o + cs.length)).toArray) := by
 have hl := run_loadCells_list (P := P) w a cs hsrc
 have hst := run_storeCells_at P g o t cs 0 cur w hg (by simpa using hfit) h1
 cases hq : P.info? elem with
 | none => simp [hq] at hs
 | some i =>
   have hi : i.size = size := by simpa [hq] using hs
   simp [Builtin.copy_, run_underlying hu, Builtin.lenOf, Builtin.firstCells, sizeOf, typeInfo, hq, hi, hn, ← hc, hl, hst]
theorem wpList_copy_wide {P : Program} {w : World} {ops : Array Oper} {rest : List Oper} {o : Oper} {a : Act} {Q : Exit → Act → World → Prop} (hgd : o.guard = none) (d s : Operand) (dT sT : TypeId)
  (ho : o.op = .call { callee := .builtin .copy, args := #[d, s], argTypes := #[dT, sT] }) (elem : TypeId) (size n : Nat) (hu : P.underlying dT = some (.slice elem)) (hsz : (P.info? elem).map (·.size) = some size)
  (g off dLen dCap : Nat) (ad : Addr) (sLen sCap : Nat) (hd : a.eval d = .slice (some ⟨g, off, none⟩) dLen dCap) (hs : a.eval s = .slice (some ad) sLen sCap)
  (cur : Array Value) (t : TypeId) (hg : w.heap[g]? = some (.cells cur t (0, 0))) (cs : List Value) (hn : Nat.min sLen dLen = n) (hc : cs.length = n * size)
  (hsrc : ∀ j v, cs[j]? = some v → w.cell? (ad.add j) = some v) (hfit : off + cs.length ≤ cur.size) (h1 : ∀ v ∈ cs, v.oneCell' = true)
  (h : wpList P ops Q rest (a.put o.dst (goInt n)) (w.setRow g (cur.toList.take off ++ (cs ++ cur.toList.drop (off + cs.length))).toArray)) : wpList P ops Q (o :: rest) a w := by
 refine wpList_plain hgd fun K hK => ?_
 have hrun := run_copy_wide (P := P) w dT sT o.type elem size n g off dLen dCap ad sLen sCap cur t cs hu hsz hg hn hc hsrc hfit h1
 unfold Oper.wp
 simp [execOp, ho, resolve, invoke, builtin, hd, hs, hrun, Result.andThen]
 exact hK _ _ h
theorem step_copy_wide {P : Program} {ops : Array Oper} {o : Oper} {a : Act} {w : World} {K : Act → World → Prop} {Q : Exit → Act → World → Prop} {E : Prop} (hgd : o.guard = none) (d s : Operand) (dT sT : TypeId)
  (ho : o.op = .call { callee := .builtin .copy, args := #[d, s], argTypes := #[dT, sT] }) (elem : TypeId) (size n : Nat) (hu : P.underlying dT = some (.slice elem)) (hsz : (P.info? elem).map (·.size) = some size)
  (g off dLen dCap : Nat) (ad : Addr) (sLen sCap : Nat) (hd : a.eval d = .slice (some ⟨g, off, none⟩) dLen dCap) (hs : a.eval s = .slice (some ad) sLen sCap)
  (cur : Array Value) (t : TypeId) (hg : w.heap[g]? = some (.cells cur t (0, 0))) (cs : List Value) (hn : Nat.min sLen dLen = n) (hc : cs.length = n * size)
  (hsrc : ∀ j v, cs[j]? = some v → w.cell? (ad.add j) = some v) (hfit : off + cs.length ≤ cur.size) (h1 : ∀ v ∈ cs, v.oneCell' = true)
  (h : ∀ w', w' = (w.setRow g (cur.toList.take off ++ (cs ++ cur.toList.drop (off + cs.length))).toArray) → K (a.put o.dst (goInt n)) w') :
  if Region.wanted o (yielded ops a.tmps) = true then Oper.wp P o a w K Q else E := by
 have hw : Region.wanted o (yielded ops a.tmps) = true := by simp [Region.wanted, hgd]
 rw [if_pos hw]
 have hrun := run_copy_wide (P := P) w dT sT o.type elem size n g off dLen dCap ad sLen sCap cur t cs hu hsz hg hn hc hsrc hfit h1
 unfold Oper.wp
 simp [execOp, ho, resolve, invoke, builtin, hd, hs, hrun, Result.andThen]
 exact h _ rfl
end Go.Proofs.YtgeklmigfhhpfaaGreatDoor
namespace Go.Proofs.YtgeklmigfhhpfaaGreatDoor
open Go.RowKit
def ClearPost (g o : Nat) (cur : Array Value) (T : TypeId) (w w' : World) : Prop :=
 ∃ cur' : Array Value, w'.heap[g]? = some (.cells cur' T (0, 0)) ∧ cur'.size = cur.size ∧ cur'.toList.take o = cur.toList.take o ∧ w.grownBy w' (some g)
theorem zeroCells_length (zs : Array Value) (n : Nat) : (Builtin.zeroCells zs n).toList.length = n * zs.size := by simp [Builtin.zeroCells]
theorem zeroCells_mem {zs : Array Value} {n : Nat} {v : Value} (h : v ∈ (Builtin.zeroCells zs n).toList) : v ∈ zs.toList := by
 simp [Builtin.zeroCells] at h
 obtain ⟨i, hi, rfl⟩ := h
 have h0 : 0 < zs.size := by
  rcases Nat.eq_zero_or_pos zs.size with h | h
  · rw [h] at hi; simp at hi
  · exact h
 have := Nat.mod_lt i h0
 rw [getElem!_pos zs _ this]
 exact Array.getElem_mem_toList this
theorem setRow_grown (w : World) (g : Nat) (cs : Array Value) : w.grownBy (w.setRow g cs) (some g) := by
 refine ⟨rfl, rfl, rfl, by simp [World.setRow], fun k _ hk => ?_⟩
 simp only [ne_eq, Option.some.injEq] at hk
 simp [World.setRow, Array.getElem?_modify, Ne.symm hk]
theorem run_clear_row {P : Program} (w : World) (t e ty : TypeId) (z : Value) (size : Nat) (ht : P.underlying t = some (.slice e)) (hv : ∀ w, (zeroValue e).run P w = .ok z w) (hz : z.cells.size = size) (h1 : ∀ v ∈ z.cells.toList, v.oneCell' = true)
  (g o n c : Nat) (cur : Array Value) (T : TypeId) (hg : w.heap[g]? = some (.cells cur T (0, 0))) (hfit : o + n * size ≤ cur.size) :
  ∃ w', (Builtin.clear_ #[t] ty #[.slice (some ⟨g, o, none⟩) n c]).run P w = .ok (.tuple #[]) w' ∧ ClearPost g o cur T w w' := by
 cases n with
 | zero => exact ⟨w, by simp [Builtin.clear_, run_underlying ht], cur, hg, rfl, rfl, gR _ _⟩
 | succ n =>
   have hl := zeroCells_length z.cells (n + 1)
   rw [hz] at hl
   have hst := run_storeCells_at (P := P) g o T (Builtin.zeroCells z.cells (n + 1)).toList 0 cur w hg (by rw [hl]; simpa using hfit) (fun v hv => h1 v (zeroCells_mem hv))
   obtain ⟨W, hW⟩ : ∃ W, W = w.setRow g (List.take (o + 0) cur.toList ++ (Builtin.zeroCells z.cells (n + 1)).toList ++ List.drop (o + 0 + (Builtin.zeroCells z.cells (n + 1)).toList.length) cur.toList).toArray := ⟨_, rfl⟩
   rw [← hW] at hst
   refine ⟨W, by simp [Builtin.clear_, run_underlying ht, hv, hst], ?_⟩
   subst hW
   clear hst
   refine ⟨(List.take (o + 0) cur.toList ++ (Builtin.zeroCells z.cells (n + 1)).toList ++ List.drop (o + 0 + (Builtin.zeroCells z.cells (n + 1)).toList.length) cur.toList).toArray, ?_, ?_, ?_, setRow_grown _ _ _⟩
   · simp only [Nat.add_zero]
     show (w.heap.modify g _)[g]? = _
     rw [Array.getElem?_modify, if_pos rfl, hg]
     rfl
   · simp [hl]
     omega
   · rw [List.append_assoc, List.take_append_of_le_length (by simp; omega), Nat.add_zero, List.take_take, Nat.min_self]
end Go.Proofs.YtgeklmigfhhpfaaGreatDoor
namespace Go.Proofs.YtgeklmigfhhpfaaGreatDoor
open Go.RowKit Go.Lib
def MulOf (x y : Nat) (w : World) (e : Ending) (w' : World) : Prop :=
 e = .returned (.tuple #[.int .u64 ((x * y / 18446744073709551616 : Nat) : Int), .int .u64 ((x * y % 18446744073709551616 : Nat) : Int)]) ∧ w' = w
set_option maxHeartbeats 1000000 in
theorem mul64_any (x y : Nat) (hx : x < 18446744073709551616) (hy : y < 18446744073709551616) (w : World) :
  Calls Tryz.prog 123 #[.int .u64 x, .int .u64 y] w (MulOf x y w) := by
 obtain ⟨bd, bt, bw, hhi⟩ := Lib.mul64_hi x y hx hy
 have ba := Lib.half_mul_le (a := x / 4294967296) (b := y / 4294967296) (by omega) (by omega)
 have bb := Lib.half_mul_le (a := x / 4294967296) (b := y % 4294967296) (by omega) (by omega)
 have bc := Lib.half_mul_le (a := x % 4294967296) (b := y / 4294967296) (by omega) (by omega)
 have ba' : x / 4294967296 * (y / 4294967296) < 18446744073709551616 := by omega
 have bb' : x / 4294967296 * (y % 4294967296) < 18446744073709551616 := by omega
 have bc' : x % 4294967296 * (y / 4294967296) < 18446744073709551616 := by omega
 have bh1 : x / 4294967296 * (y / 4294967296) + (x / 4294967296 * (y % 4294967296) + x % 4294967296 * (y % 4294967296) / 4294967296) / 4294967296 < 18446744073709551616 := by omega
 have bh : x / 4294967296 * (y / 4294967296) + (x / 4294967296 * (y % 4294967296) + x % 4294967296 * (y % 4294967296) / 4294967296) / 4294967296 + ((x / 4294967296 * (y % 4294967296) + x % 4294967296 * (y % 4294967296) / 4294967296) % 4294967296 + x % 4294967296 * (y / 4294967296)) / 4294967296 < 18446744073709551616 := by omega
 go_enter Tryz.func123, Tryz.ntmps123
 go_wp2
 simp only [Mul64.maskN x hx, Mul64.maskN y hy, Mul64.divN, Mul64.mulN, Mul64.addN, Mul64.wrapN _ bd, Mul64.wrapN _ bb', Mul64.wrapN _ bt, Mul64.maskN _ bt, Mul64.wrapN _ bc', Mul64.wrapN _ bw, Mul64.wrapN _ ba', Mul64.wrapN _ bh1, Mul64.wrapN _ bh, Mul64.wrapM (x * y)]
 rw [hhi]
 go_ret2
 exact ⟨rfl, rfl⟩
set_option maxHeartbeats 1000000 in
theorem mul_any (x y : Nat) (hx : x < 18446744073709551616) (hy : y < 18446744073709551616) (w : World) :
  Calls Tryz.prog 83 #[.int .u64 x, .int .u64 y] w (MulOf x y w) := by
 go_enter Tryz.func83, Tryz.ntmps83
 go_wp2_with (go_at_call 123; refine (mul64_any x y hx hy w).mono ?_; rintro e w' ⟨rfl, rfl⟩)
 go_ret2
 exact ⟨rfl, rfl⟩
end Go.Proofs.YtgeklmigfhhpfaaGreatDoor
namespace Go.Proofs.YtgeklmigfhhpfaaGreatDoor
open Go.RowKit
theorem Tryz.infoFormR : (Tryz.prog.info? 35).map (fun i => (i.zero, i.size, i.bytes)) = some (some (.agg #[.int .i64 0, .slice none 0 0]), 2, 32) := by kernel_rfl
def Filled (w : World) (g N n D : Nat) (xs : List Value) : Prop :=
 ∃ cur : Array Value, w.heap[g]? = some (.cells cur 35 (0, 0)) ∧ cur.size = N * 2 ∧ ∀ j, j < D * 2 → cur[j]? = xs[j % (n * 2)]?
theorem made_cells {w : World} {base g N : Nat} {xs : List Value} (h : w.ownsRow base 35 2 (.slice (some ⟨g, 0, none⟩) N N) N xs) : ∃ cur, w.heap[g]? = some (.cells cur 35 (0, 0)) ∧ cur.size = N * 2 := by
 rcases h.2 with ⟨h', _⟩ | ⟨g', cap', cur, h', _, hg, _, _, hs, _⟩
 · simp at h'
 · simp only [Value.slice.injEq, Option.some.injEq, Addr.mk.injEq, and_true, true_and] at h'
   obtain ⟨rfl, rfl⟩ := h'
   exact ⟨cur, hg, hs⟩
theorem filled_first {w : World} {g N n : Nat} {xs : List Value} {cur : Array Value} (hg : w.heap[g]? = some (.cells cur 35 (0, 0))) (hs : cur.size = N * 2) (hl : xs.length = n * 2) (hn : n ≤ N) :
  Filled (w.setRow g (cur.toList.take 0 ++ (xs ++ cur.toList.drop (0 + xs.length))).toArray) g N n n xs := by
 refine ⟨_, setRow_heap w g _ _ _ _ hg, ?_, fun j hj => ?_⟩
 · simp [hl, hs]
   omega
 · rw [Nat.mod_eq_of_lt hj]
   simp
   rw [List.getElem?_append_left (by omega)]
theorem filled_step {w : World} {g N n D m : Nat} {xs : List Value} {cur : Array Value} (hg : w.heap[g]? = some (.cells cur 35 (0, 0))) (hs : cur.size = N * 2) (hc : ∀ j, j < D * 2 → cur[j]? = xs[j % (n * 2)]?)
  (hd : n ∣ D) (hm : m ≤ D) (hmN : D + m ≤ N) :
  Filled (w.setRow g (cur.toList.take (D * 2) ++ (cur.toList.take (m * 2) ++ cur.toList.drop (D * 2 + (cur.toList.take (m * 2)).length))).toArray) g N n (D + m) xs := by
 have hlt : (cur.toList.take (D * 2)).length = D * 2 := by simp [hs]; omega
 have hlm : (cur.toList.take (m * 2)).length = m * 2 := by simp [hs]; omega
 refine ⟨_, setRow_heap w g _ _ _ _ hg, ?_, fun j hj => ?_⟩
 · simp only [List.size_toArray, List.length_append, hlt, hlm, List.length_drop, Array.length_toList, hs]
   omega
 · simp only [List.getElem?_toArray]
   by_cases h1 : j < D * 2
   · rw [List.getElem?_append_left (by omega), List.getElem?_take_of_lt h1, Array.getElem?_toList]
     exact hc j h1
   · rw [List.getElem?_append_right (by omega), hlt, List.getElem?_append_left (by omega), List.getElem?_take_of_lt (by omega), Array.getElem?_toList, hc _ (by omega)]
     obtain ⟨k, rfl⟩ := hd
     congr 1
     have e : j = (j - n * k * 2) + n * 2 * k := by
      have : n * 2 * k = n * k * 2 := by rw [Nat.mul_right_comm]
      omega
     conv => rhs; rw [e, Nat.add_mul_mod_self_left]
theorem copy_src {w : World} {g k j : Nat} {cur : Array Value} {t : TypeId} {v : Value} (h : w.heap[g]? = some (.cells cur t (0, 0))) (hj : (cur.toList.take k)[j]? = some v) : w.cell? ((⟨g, 0, none⟩ : Addr).add j) = some v := by
 have hadd : (⟨g, 0, none⟩ : Addr).add j = ⟨g, j, none⟩ := by unfold Addr.add; split <;> simp_all
 rw [hadd]
 have hjk : j < k := by
  have := (List.getElem?_eq_some_iff.1 hj).1
  simp at this
  omega
 rw [List.getElem?_take_of_lt hjk, Array.getElem?_toList] at hj
 simp [World.cell?, h, hj]
theorem filled_one {xs : List Value} {cur : Array Value} {n D m : Nat} {v : Value} (h1 : ∀ v ∈ xs, v.oneCell' = true) (h : ∀ j, j < D * 2 → cur[j]? = xs[j % (n * 2)]?) (hm : m ≤ D) (hv : v ∈ cur.toList.take (m * 2)) : v.oneCell' = true := by
 obtain ⟨j, hj, rfl⟩ := List.getElem_of_mem hv
 have hj2 : j < m * 2 := by simp at hj; omega
 have h3 := h j (by omega)
 have h4 : (cur.toList.take (m * 2))[j]? = cur[j]? := by rw [List.getElem?_take_of_lt hj2, Array.getElem?_toList]
 rw [List.getElem?_eq_getElem hj, h3] at h4
 exact h1 _ (List.mem_of_getElem? h4.symm)
theorem Tryz.infoForm2 : (Tryz.prog.info? 35).map (·.size) = some 2 := by kernel_rfl
end Go.Proofs.YtgeklmigfhhpfaaGreatDoor
namespace Go.Proofs.YtgeklmigfhhpfaaGreatDoor
open Go.RowKit
theorem rep_get {α : Type} (l : List α) : ∀ (c j : Nat), j < c * l.length → ((List.replicate c l).flatten)[j]? = l[j % l.length]?
 | 0, j, h => by simp at h
 | c + 1, j, h => by
   rw [List.replicate_succ, List.flatten_cons]
   by_cases hj : j < l.length
   · rw [List.getElem?_append_left hj, Nat.mod_eq_of_lt hj]
   · rw [List.getElem?_append_right (by omega), rep_get l c (j - l.length) (by rw [Nat.add_mul] at h; omega)]
     rw [show j % l.length = (j - l.length) % l.length from Nat.mod_eq_sub_mod (by omega)]
theorem wpList_copy_nil {P : Program} {w : World} {ops : Array Oper} {rest : List Oper} {o : Oper} {a : Act} {Q : Exit → Act → World → Prop} (hgd : o.guard = none) (d s : Operand) (dT sT : TypeId)
  (ho : o.op = .call { callee := .builtin .copy, args := #[d, s], argTypes := #[dT, sT] }) (elem : TypeId) (size : Nat) (hu : P.underlying dT = some (.slice elem)) (hsz : (P.info? elem).map (·.size) = some size)
  (g dLen dCap : Nat) (hd : a.eval d = .slice (some ⟨g, 0, none⟩) dLen dCap) (hs : a.eval s = .slice none 0 0)
  (h : wpList P ops Q rest (a.put o.dst (goInt 0)) w) : wpList P ops Q (o :: rest) a w := by
 refine wpList_plain hgd fun K hK => ?_
 have hrun := run_copy_nil (P := P) w dT sT o.type elem ⟨g, 0, none⟩ dLen dCap hu (by rw [hsz]; rfl)
 unfold Oper.wp
 simp [execOp, ho, resolve, invoke, builtin, hd, hs, hrun, Result.andThen]
 exact hK _ _ h
theorem rep_len {α : Type} (l : List α) : ∀ (c : Nat), ((List.replicate c l).flatten).length = l.length * c
 | 0 => rfl
 | c + 1 => by rw [List.replicate_succ, List.flatten_cons, List.length_append, rep_len l c, Nat.mul_succ, Nat.add_comm]
theorem conds_repeat {w2 : World} {P n g c : Nat} {cv : Value} {cs : List CondD} {tvs : List Value} (h : CSt w2 P cv cs tvs) (hn : cs.length = n) (hcl : n * c ≤ 40000)
  (hc : ∀ j, j < n * c * 2 → w2.cell? ⟨g, j, none⟩ = ((cs.zip tvs).flatMap condCells)[j % (n * 2)]?) : CondsAt w2 (.slice (some ⟨g, 0, none⟩) (n * c) (n * c)) ((List.replicate c cs).flatten) := by
 have hlen : ((List.replicate c cs).flatten).length = n * c := by rw [rep_len, hn]
 refine ⟨some ⟨g, 0, none⟩, n * c, by rw [hlen], by rw [hlen]; omega, fun j f hj => ?_⟩
 have hjl : j < n * c := by rw [← hlen]; exact (List.getElem?_eq_some_iff.1 hj).1
 have hn0 : 0 < n := by
  rcases Nat.eq_zero_or_pos n with h0 | h0
  · rw [h0, Nat.zero_mul] at hjl
    omega
  · exact h0
 rw [rep_get cs c j (by rw [hn, Nat.mul_comm]; exact hjl), hn] at hj
 have hml : j % n < n := Nat.mod_lt _ hn0
 have hjt : tvs[j % n]? = some (tvs[j % n]'(by rw [h.len]; omega)) := List.getElem?_eq_getElem _
 generalize tvs[j % n]'(by rw [h.len]; omega) = tv at hjt
 have hz : (cs.zip tvs)[j % n]? = some (f, tv) := by
  rw [List.getElem?_zip_eq_some]
  exact ⟨hj, hjt⟩
 obtain ⟨⟨g1, g2⟩, g3, g4⟩ := h.good f (List.mem_of_getElem? hj)
 have m0 : (j * 2) % (n * 2) = (j % n) * 2 + 0 := by rw [Nat.mul_mod_mul_right]; rfl
 have m1 : (j * 2 + 1) % (n * 2) = (j % n) * 2 + 1 := by
  have h1 := Nat.div_add_mod j n
  have h2 : j * 2 + 1 = ((j % n) * 2 + 1) + (n * 2) * (j / n) := by
   have h3 : n * 2 * (j / n) = n * (j / n) * 2 := by rw [Nat.mul_assoc, Nat.mul_comm 2, ← Nat.mul_assoc]
   omega
  rw [h2, Nat.add_mul_mod_self_left, Nat.mod_eq_of_lt (by omega)]
 refine ⟨g, 0, tv, rfl, ?_, ?_, terms_of_owns (h.terms _ f tv hj hjt).1 (by omega) g4, by omega, by omega⟩
 · rw [Nat.zero_add, hc _ (by omega), m0]
   exact flat_get (f := condCells) (k := 2) (fun _ => rfl) hz (i := 0) (v := Value.int .i64 f.1) rfl
 · rw [Nat.zero_add, hc _ (by omega), m1]
   exact flat_get (f := condCells) (k := 2) (fun _ => rfl) hz (i := 1) (v := tv) rfl
end Go.Proofs.YtgeklmigfhhpfaaGreatDoor
