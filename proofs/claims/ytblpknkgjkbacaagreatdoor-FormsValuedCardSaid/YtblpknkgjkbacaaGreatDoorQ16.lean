/-
 The leaves of a program's check: how many arguments an operator needs; what an expression has beyond its operator. The tables of a program's check. The checker's lists of forms; places. Expressions, as they lie in memory; what is wrong with one.
-/
import Derived.Test.YtblpknkgjkbacaaGreatDoorQ13
import Derived.Test.YtblpknkgjkbacaaGreatDoorQ15
namespace Go.Proofs.YtblpknkgjkbacaaGreatDoor
set_option linter.unusedVariables false
open Go.RowKit
variable {w w' : World}
def argsN (op : Int) : Int := if op = 4 ∨ op = 5 ∨ op = 6 then 2 else 0
set_option maxHeartbeats 1000000 in
theorem argsOf_any (op : Int) (w : World) : Calls Tryz.prog 171 #[.int .i64 op] w (Ret (.int .i64 (argsN op)) w) := by
  go_enter Tryz.func171, Tryz.ntmps171
  go_wp2
  all_goals
    go_ret
    exact ⟨by simp_all [argsN], rfl⟩
/-- An expression has more than its operator needs. -/
def moreE (op n c : Int) (lt : Nat) (arr : ByteArray) (ls : Nat) : Bool :=
  (op != 1 && n != 0) || ((op != 2 && (c != 0 || lt != 0)) || (op != 3 && (arr.toList != [] || ls != 0)))
set_option maxRecDepth 100000 in
set_option maxHeartbeats 4000000 in
theorem exprMore_any (op n c : Int) (p1 p2 p3 : Option Addr) (l1 k1 l2 k2 l3 k3 : Nat) (arr : ByteArray) (w : World) :
    Calls Tryz.prog 154 #[.agg #[.int .i64 op, .int .i64 n, .int .i64 c, .slice p1 l1 k1, .string arr, .slice p2 l2 k2, .slice p3 l3 k3]] w (Gives (.bool (moreE op n c l1 arr l2)) w) := by
  have ha := World.grownBy_alloc w (.cells #[.int .i64 op, .int .i64 n, .int .i64 c, .slice p1 l1 k1, .string arr, .slice p2 l2 k2, .slice p3 l3 k3] 93) none
  have hx := heap_alloc_new w (.cells #[.int .i64 op, .int .i64 n, .int .i64 c, .slice p1 l1 k1, .string arr, .slice p2 l2 k2, .slice p3 l3 k3] 93)
  obtain ⟨⟨x0, x1, x2, x3, x4, x5, x6⟩, xf⟩ := box7_cells hx
  have HA := Lib.hid ha
  clear ha hx
  by_cases h1 : op = 1
  · subst h1
    go_enter Tryz.func154, Tryz.ntmps154
    go_wp2
    all_goals
      go_ret
      exact ⟨ret_bool (by first | (simp [moreE, *]; done) | (cases l2 <;> simp [moreE, *]; done) | (cases l1 <;> cases l2 <;> simp_all [moreE]; done)), (by first | exact HA.out | exact World.grownBy_alloc _ _ _ | exact grown_own HA.out (grown_set _ _ _ _) (fun k hk => by cases hk; exact Nat.le_refl _) | exact grown_own HA.out (grownBy_trans (grown_set _ _ _ _) (grown_set _ _ _ _)) (fun k hk => by cases hk; exact Nat.le_refl _))⟩
  have e1 : (op == 1) = false := by simpa using h1
  by_cases h2 : op = 2
  · subst h2
    go_enter Tryz.func154, Tryz.ntmps154
    go_wp2
    all_goals
      go_ret
      exact ⟨ret_bool (by first | (simp [moreE, *]; done) | (cases l2 <;> simp [moreE, *]; done) | (cases l1 <;> cases l2 <;> simp_all [moreE]; done)), (by first | exact HA.out | exact World.grownBy_alloc _ _ _ | exact grown_own HA.out (grown_set _ _ _ _) (fun k hk => by cases hk; exact Nat.le_refl _) | exact grown_own HA.out (grownBy_trans (grown_set _ _ _ _) (grown_set _ _ _ _)) (fun k hk => by cases hk; exact Nat.le_refl _))⟩
  have e2 : (op == 2) = false := by simpa using h2
  by_cases h3 : op = 3
  · subst h3
    go_enter Tryz.func154, Tryz.ntmps154
    go_wp2
    all_goals
      go_ret
      exact ⟨ret_bool (by first | (simp [moreE, *]; done) | (cases l2 <;> simp [moreE, *]; done) | (cases l1 <;> cases l2 <;> simp_all [moreE]; done)), (by first | exact HA.out | exact World.grownBy_alloc _ _ _ | exact grown_own HA.out (grown_set _ _ _ _) (fun k hk => by cases hk; exact Nat.le_refl _) | exact grown_own HA.out (grownBy_trans (grown_set _ _ _ _) (grown_set _ _ _ _)) (fun k hk => by cases hk; exact Nat.le_refl _))⟩
  have e3 : (op == 3) = false := by simpa using h3
  go_enter Tryz.func154, Tryz.ntmps154
  go_wp2
  all_goals
    go_ret
    exact ⟨ret_bool (by first | (simp [moreE, *]; done) | (cases l2 <;> simp [moreE, *]; done) | (cases l1 <;> cases l2 <;> simp_all [moreE]; done)), (by first | exact HA.out | exact World.grownBy_alloc _ _ _ | exact grown_own HA.out (grown_set _ _ _ _) (fun k hk => by cases hk; exact Nat.le_refl _) | exact grown_own HA.out (grownBy_trans (grown_set _ _ _ _) (grown_set _ _ _ _)) (fun k hk => by cases hk; exact Nat.le_refl _))⟩
end Go.Proofs.YtblpknkgjkbacaaGreatDoor
namespace Go.Proofs.YtblpknkgjkbacaaGreatDoor
open Go.RowKit Go.Maps Go.WideMaps
variable {w w' : World}
/-- A look-up that tells whether there is one. -/
theorem tot_ok {D : Table} {X : ByteArray → Int} {B k : Nat} (hM : MapAt w B k D) (hT : TabIs D X) {n : ByteArray} (hs : n.size ≤ maxLen) :
    (Instr.lookup 73 (.map (some B)) (.string n) true).run Tryz.prog w = .ok (.tuple #[.int .i64 (X n), .bool (has D (strL n))]) w := by
  have hX := hT.at_ n
  obtain ⟨es, clock, hb, F, _, rfl⟩ := hM
  rcases Maps.fit_look true Tryz.lawStr Tryz.underlying73 (Tryz.zeroInt w) hb F (key_str hs) with ⟨hr, _, hat⟩ | ⟨e0, y, _, _, hr, hR, hat, _⟩
  · rw [hr, has_false_of_atKey hat]
    have : X n = 0 := (lit64_inj ((hat (lit64 0)).symm.trans hX)).symm
    rw [this]
    rfl
  · obtain ⟨c, hc, hy⟩ := plainElem_int_inv Tryz.underlying3 hR
    have h1 : X n = c := by
      have h2 := (hat (lit64 0)).symm.trans hX
      rw [hy.1] at h2
      exact (lit64_inj h2).symm
    rw [hr, has_true_of_atKey hat, hc, h1]
    rfl
/-- A table of names. -/
def SetAtB (w : World) (B n : Nat) (D : Table) : Prop := w.ownsMap Tryz.prog 9 (plainElem Tryz.prog 4) B n D
def litB (b : Bool) : Table := .lit (.bool b)
/-- The names in it. -/
structure SetIs (D : Table) (X : ByteArray → Bool) : Prop where
  map : IsMap D
  at_ : ∀ n, D.atKey (strL n) (litB false) = litB (X n)
theorem setIs_start : SetIs (.map []) (fun _ => false) := ⟨isMap_empty, fun _ => rfl⟩
theorem SetIs.put {D : Table} {X : ByteArray → Bool} (h : SetIs D X) (n : ByteArray) (b : Bool) : SetIs (D.put (strL n) (litB b)) (fun m => if m = n then b else X m) := by
  refine ⟨h.map.put _ _, fun m => ?_⟩
  by_cases e : m = n
  · subst e
    simp only [if_true]
    exact atKey_put_same h.map (strL_key _) _ _
  · rw [if_neg e, atKey_put_other (fun e2 => e (strL_inj e2))]
    exact h.at_ m
theorem Tryz.zeroBool (w : World) : (zeroValue 4).run Tryz.prog w = .ok (.bool false) w := by kernel_rfl
set_option maxRecDepth 100000 in
theorem setB_look {D : Table} {X : ByteArray → Bool} {B k : Nat} (hM : SetAtB w B k D) (hT : SetIs D X) {n : ByteArray} (hs : n.size ≤ maxLen) :
    (Instr.lookup 137 (.map (some B)) (.string n) false).run Tryz.prog w = .ok (.bool (X n)) w := by
  obtain ⟨v, ps, hr, hv⟩ := World.ownsMap.lookup hM Tryz.lawStr Tryz.underlying137 (Tryz.zeroBool w) (plainElem_bool Tryz.underlying4 false) (key_str hs)
  have hX := hT.at_ n
  unfold litB at hX
  rw [hX] at hv
  have : v = .bool (X n) := by
    unfold plainElem at hv
    rw [Tryz.underlying4] at hv
    cases v <;> simp_all
  rw [hr, this]
/-- The checker at C: its tables, its counts. -/
def ChkAt (w : World) (C Bd Bs Bl : Nat) (cells steps : Int) : Prop := w.heap[C]? = some (.cells #[.map (some Bd), .int .i64 cells, .map (some Bs), .map (some Bl), .int .i64 steps] 139 (0, 0))
theorem ChkAt.cells {C Bd Bs Bl : Nat} {cells steps : Int} (h : ChkAt w C Bd Bs Bl cells steps) : w.cell? ⟨C, 0, none⟩ = some (.map (some Bd)) ∧ w.cell? ⟨C, 1, none⟩ = some (.int .i64 cells) ∧ w.cell? ⟨C, 2, none⟩ = some (.map (some Bs)) ∧ w.cell? ⟨C, 3, none⟩ = some (.map (some Bl)) ∧ w.cell? ⟨C, 4, none⟩ = some (.int .i64 steps) ∧ ∀ j, w.frozen? ⟨C, j, none⟩ = false := by
  unfold ChkAt at h
  refine ⟨?_, ?_, ?_, ?_, ?_, fun j => by simp [World.frozen?, h]⟩ <;> (unfold World.cell?; rw [h]; rfl)
/-- What is wrong with a form whose variables have to be of some names. -/
def inErr (X : ByteArray → Bool) (c : Int) (ts : List TermD) : Int := if formErr c ts ≠ 0 then formErr c ts else if ts.all (fun t => X t.1) = true then 0 else 16
set_option maxRecDepth 100000 in
set_option maxHeartbeats 4000000 in
theorem chkForm_any {C Bd Bs Bl kl : Nat} {cells steps : Int} {Dl : Table} {X : ByteArray → Bool} (c : Int) (ts : List TermD) (tv : Value) (w : World) (hC : ChkAt w C Bd Bs Bl cells steps) (hL : SetAtB w Bl kl Dl) (hX : SetIs Dl X) (ht : TermsAt w tv ts) :
    Calls Tryz.prog 157 #[.pointer (some ⟨C, 0, none⟩), .agg #[.int .i64 c, tv]] w (Gives (.int .i64 (inErr X c ts)) w) := by
  obtain ⟨p, cap, rfl, hl, hc⟩ := ht
  have HC := Lib.hid hC
  have HL := Lib.hid hL
  have HX := Lib.hid hX
  have HT := Lib.hid hc
  have ha := World.grownBy_alloc w (.cells #[.int .i64 c, .slice p ts.length cap] 28) none
  have HA := Lib.hid ha
  obtain ⟨x0, x1, xf⟩ := cell_of_two (heap_alloc_new w (.cells #[.int .i64 c, .slice p ts.length cap] 28))
  have X0 := Lib.hid (heap_alloc_new w (.cells #[.int .i64 c, .slice p ts.length cap] 28))
  clear hC hL hX hc ha
  by_cases hf : formErr c ts = 0
  case neg =>
    have hf0 : (formErr c ts != 0) = true := by simpa using hf
    have HI : Hid (inErr X c ts = formErr c ts) := by show _ = _; unfold inErr; rw [if_pos hf]
    clear hf
    go_enter Tryz.func157, Tryz.ntmps157
    go_wp2_with (go_at_call 26; go_must (refine (checkForm_at c ts p cap _ hl (fun j t h => (HT.out j t h).kept HA.out)).mono ?_; rintro e w1 ⟨rfl, hg⟩; have G1 := Lib.hid (grownBy_trans HA.out hg); clear hg))
    go_ret
    exact ⟨by rw [HI.out]; rfl, G1.out⟩
  case pos =>
    have hf0 : (formErr c ts != 0) = false := by simp [hf]
    have HI : Hid (inErr X c ts = if ts.all (fun t => X t.1) = true then 0 else 16) := by show _ = _; unfold inErr; rw [if_neg (by simp [hf])]
    have HG := Lib.hid (form_good hf)
    have hl12 := HG.out.2.1
    clear hf
    go_enter Tryz.func157, Tryz.ntmps157
    go_upto_region 4 with (go_at_call 26; go_must (refine (checkForm_at c ts p cap _ hl (fun j t h => (HT.out j t h).kept HA.out)).mono ?_; rintro e w1 ⟨rfl, hg⟩; have G1 := Lib.hid (grownBy_trans HA.out hg); obtain ⟨x0, x1, xf⟩ := cell_of_two (heap_keep X0.out hg (by simp)); clear hg))
    have hC1 := Lib.hid (heap_keep HC.out G1.out (by simp))
    have hL1 : Hid (SetAtB w1 Bl kl Dl) := World.ownsMap.kept HL.out G1.out (by simp)
    go_wp2
    go_loopw [16] (fun i wr => ∃ k : Nat, k ≤ ts.length ∧ i = .int .i64 k ∧ Hid (w1.grownBy wr none) ∧ Hid ((ts.take k).all (fun t => X t.1) = true)) (fun i _ => ts.length - (intOf i).toNat)
    case atStart => exact ⟨0, Nat.zero_le _, rfl, grownBy_refl _ _, by show _ = _; simp⟩
    case round =>
      obtain ⟨k, hk, rfl, HGr, HAll⟩ := hrel
      by_cases hlt : k < ts.length
      · have h0 := List.getElem?_eq_getElem hlt
        have hta := ((HT.out k _ h0).kept G1.out).kept HGr.out
        have HTk := Lib.hid (List.take_succ_eq_append_getElem hlt)
        have HAx : ∀ i, (hi : ts[k] = i) → (ts.all (fun t => X t.1) = true → X i.1 = true) := fun i hi h => by
          rw [List.all_eq_true] at h
          rw [← hi]
          exact h _ (List.getElem_mem hlt)
        generalize ts[k] = t at *
        have hax := HAx t rfl
        clear h0 HAx
        obtain ⟨b, off, hp, h3, h4, h5, h6, h7⟩ := hta
        subst hp
        have hCw := heap_keep hC1.out (grownBy_trans HGr.out (World.grownBy_alloc wr (.cells #[.string t.1, .int .i64 t.2] 54) none)) (by simp)
        obtain ⟨c0, c1, c2, c3, c4, cf⟩ := ChkAt.cells hCw
        have hLw : SetAtB (wr.alloc (.cells #[.string t.1, .int .i64 t.2] 54)) Bl kl Dl := World.ownsMap.kept hL1.out (grownBy_trans HGr.out (World.grownBy_alloc _ _ none)) (by simp)
        have hlk := setB_look hLw HX.out h3
        have HLw := Lib.hid hLw
        obtain ⟨b0, b1, bf⟩ := cell_of_two (heap_alloc_new wr (.cells #[.string t.1, .int .i64 t.2] 54))
        have hga := World.grownBy_alloc wr (.cells #[.string t.1, .int .i64 t.2] 54) none
        have HGa := Lib.hid (grownBy_trans HGr.out hga)
        have hkI : (k : Int) < (ts.length : Int) := by omega
        clear hCw hLw hga
        have hld : (Instr.lookup 137 (.map (some Bl)) (.string t.1) false).run Tryz.prog (wr.alloc (.cells #[.string t.1, .int .i64 t.2] 54)).drew = .ok (.bool (X t.1)) (wr.alloc (.cells #[.string t.1, .int .i64 t.2] 54)).drew := setB_look (World.ownsMap.kept HLw.out (grown_drew _ none) (by simp)) HX.out h3
        go_upto_region 7 with fail
        go_region_held3 (fun W => W.cell? ⟨C, 3, none⟩ = some (.map (some Bl)) ∧ W.cell? ⟨wr.heap.size, 0, none⟩ = some (.string t.1) ∧ (Instr.lookup 137 (.map (some Bl)) (.string t.1) false).run Tryz.prog W = .ok (.bool (X t.1)) W) (first
          | exact ⟨c3, b0, hld⟩
          | go_keep) (fail)
        all_goals
          cases hx : X t.1 with
          | false =>
            have HI2 : Hid (inErr X c ts = 16) := HI.out.trans (if_neg (fun h => by have := hax h; rw [hx] at this; cases this))
            clear hx hax hlk hld
            go_wp2
            go_ret
            exact ⟨by rw [HI2.out]; rfl, grownBy_trans G1.out (grownBy_trans HGa.out (grown_drew _ none))⟩
          | true =>
            have HAl : Hid ((ts.take (k + 1)).all (fun t => X t.1) = true) := by
              show _ = _
              rw [HTk.out, List.all_append, HAll.out]
              simp [hx]
            clear hx hax hlk hld
            go_wp2
            go_roundw
            case rel => exact ⟨k + 1, by omega, by go_num, grownBy_trans HGa.out (grown_drew _ none), HAl.out⟩
            case measure => simp [intOf]; omega
      · obtain rfl : k = ts.length := by omega
        have hall := HAll.out
        rw [List.take_length] at hall
        have HI2 : Hid (inErr X c ts = 0) := HI.out.trans (if_pos hall)
        clear hall
        go_wp2
        go_ret
        exact ⟨by rw [HI2.out]; rfl, grownBy_trans G1.out HGr.out⟩
end Go.Proofs.YtblpknkgjkbacaaGreatDoor
namespace Go.Proofs.YtblpknkgjkbacaaGreatDoor
open Go.RowKit Go.Maps Go.WideMaps
variable {w w' : World}
/-- The first error. -/
def firstE : List Int → Int
  | [] => 0
  | e :: r => if e = 0 then firstE r else e
theorem firstE_drop {l : List Int} {k : Nat} {e : Int} (h : l[k]? = some e) : firstE (l.drop k) = if e = 0 then firstE (l.drop (k + 1)) else e := by
  obtain ⟨hk, rfl⟩ := List.getElem?_eq_some_iff.1 h
  rw [List.drop_eq_getElem_cons hk]
  rfl
set_option maxRecDepth 100000 in
set_option maxHeartbeats 4000000 in
theorem chkForms_any {C Bd Bs Bl kl : Nat} {cells steps : Int} {Dl : Table} {X : ByteArray → Bool} (fs : List CondD) (v : Value) (w : World) (hC : ChkAt w C Bd Bs Bl cells steps) (hL : SetAtB w Bl kl Dl) (hX : SetIs Dl X) (ht : CondsAt w v fs) :
    Calls Tryz.prog 30 #[v, .func (.func 157) #[.pointer (some ⟨C, 0, none⟩)] #[]] w (Gives (.int .i64 (firstE (fs.map fun f => inErr X f.1 f.2))) w) := by
  obtain ⟨p, cap, rfl, hl, hc⟩ := ht
  have HC := Lib.hid hC
  have HL := Lib.hid hL
  have HT := Lib.hid hc
  have hlen : (fs.length : Int) ≤ 9223372036854775807 := by omega
  clear hC hL hc
  generalize hE : firstE (fs.map fun f => inErr X f.1 f.2) = E
  go_enter Tryz.func30, Tryz.ntmps30
  go_wp2
  go_loopw [10] (fun i wr => ∃ k : Nat, k ≤ fs.length ∧ i = .int .i64 k ∧ Hid (w.grownBy wr none) ∧ Hid (firstE ((fs.map fun f => inErr X f.1 f.2).drop k) = E)) (fun i _ => fs.length - (intOf i).toNat)
  case atStart => exact ⟨0, Nat.zero_le _, rfl, grownBy_refl _ _, hE⟩
  case round =>
    obtain ⟨k, hk, rfl, HG, HR⟩ := hrel
    by_cases hlt : k < fs.length
    · have h0 := List.getElem?_eq_getElem hlt
      have hca := (HT.out k _ h0).kept HG.out
      have HD := Lib.hid (firstE_drop (l := fs.map fun f => inErr X f.1 f.2) (k := k) (e := inErr X fs[k].1 fs[k].2) (by rw [List.getElem?_map, h0]; rfl))
      generalize fs[k] = f at *
      obtain ⟨b, off, tv, hp, h1, h2, h3, h4, h5⟩ := hca
      subst hp
      obtain ⟨pt, tcap, rfl, -⟩ := id h3
      have HTs := Lib.hid h3
      have hkI : (k : Int) < (fs.length : Int) := by omega
      obtain ⟨b0, b1, bf⟩ := cell_of_two (heap_alloc_new wr (.cells #[.int .i64 f.1, .slice pt f.2.length tcap] 28))
      have HGa := Lib.hid (grownBy_trans HG.out (World.grownBy_alloc wr (.cells #[.int .i64 f.1, .slice pt f.2.length tcap] 28) none))
      clear h0 h3
      obtain ⟨cf, ts⟩ := f
      simp only at *
      go_wp2_with (go_at_call 157; go_must (refine (chkForm_any cf ts _ _ (heap_keep HC.out HGa.out (by simp)) (World.ownsMap.kept HL.out HGa.out (by simp)) hX (HTs.out.kept (World.grownBy_alloc _ _ none))).mono ?_; rintro e w2 ⟨rfl, hg⟩; have HG2 := Lib.hid (grownBy_trans HGa.out hg); clear hg))
      · rename_i hne
        have hne' : ¬ inErr X cf ts = 0 := by simpa using hne
        have h6 := HD.out
        rw [if_neg hne', HR.out] at h6
        go_ret
        exact ⟨by rw [h6]; rfl, HG2.out⟩
      · rename_i heq
        have heq' : inErr X cf ts = 0 := by simpa using heq
        have h6 := HD.out
        rw [if_pos heq', HR.out] at h6
        refine ⟨⟨k + 1, by omega, by go_num, HG2.out, h6.symm⟩, by simp [intOf]; omega⟩
    · obtain rfl : k = fs.length := by omega
      have h2 := HR.out
      rw [List.drop_eq_nil_of_le (by simp)] at h2
      go_wp2
      go_ret
      exact ⟨by rw [← h2]; rfl, HG.out⟩
/-- What is wrong with a cell. -/
def placeE (Dd : Table) (Xd : ByteArray → Int) (X : ByteArray → Bool) (arr : ByteArray) (fs : List CondD) : Int :=
  if has Dd (strL arr) = false then 8 else if (fs.length : Int) ≠ Xd arr then 3 else firstE (fs.map fun f => inErr X f.1 f.2)
set_option maxRecDepth 100000 in
set_option maxHeartbeats 4000000 in
theorem chkPlace_any {C Bd Bs Bl kl kd : Nat} {cells steps : Int} {Dl Dd : Table} {X : ByteArray → Bool} {Xd : ByteArray → Int} (arr : ByteArray) (fs : List CondD) (v : Value) (w : World) (ha : arr.size ≤ maxLen) (hC : ChkAt w C Bd Bs Bl cells steps) (hD : MapAt w Bd kd Dd) (hXd : TabIs Dd Xd) (hL : SetAtB w Bl kl Dl) (hX : SetIs Dl X) (ht : CondsAt w v fs) :
    Calls Tryz.prog 158 #[.pointer (some ⟨C, 0, none⟩), .string arr, v] w (Gives (.int .i64 (placeE Dd Xd X arr fs)) w) := by
  obtain ⟨p, cap, rfl, hl, hcs⟩ := id ht
  have hlk := tot_ok hD hXd ha
  obtain ⟨c0, c1, c2, c3, c4, cf⟩ := hC.cells
  have HC := Lib.hid hC
  have HL := Lib.hid hL
  have HT := Lib.hid ht
  have hlen : (fs.length : Int) ≤ 9223372036854775807 := by omega
  clear hC hL ht hcs hD hXd
  cases hh : has Dd (strL arr) with
  | false =>
    have HE : Hid (placeE Dd Xd X arr fs = 8) := by show _ = _; unfold placeE; rw [if_pos hh]
    rw [hh] at hlk
    clear hh
    go_enter Tryz.func158, Tryz.ntmps158
    go_wp2
    go_ret
    exact ⟨by rw [HE.out]; rfl, grownBy_refl _ _⟩
  | true =>
    rw [hh] at hlk
    by_cases hd : (fs.length : Int) = Xd arr
    · have HE : Hid (placeE Dd Xd X arr fs = firstE (fs.map fun f => inErr X f.1 f.2)) := by show _ = _; unfold placeE; rw [if_neg (by rw [hh]; simp), if_neg (by simp [hd])]
      have hd0 : ((fs.length : Int) != Xd arr) = false := by simp [hd]
      clear hh hd
      go_enter Tryz.func158, Tryz.ntmps158
      go_wp2_with (go_at_call 30; go_must (refine (chkForms_any fs _ _ HC.out HL.out hX HT.out).mono ?_; rintro e w1 ⟨rfl, hg⟩; have G1 := Lib.hid hg; clear hg))
      go_ret
      exact ⟨by rw [HE.out]; rfl, G1.out⟩
    · have HE : Hid (placeE Dd Xd X arr fs = 3) := by show _ = _; unfold placeE; rw [if_neg (by rw [hh]; simp), if_pos hd]
      have hd0 : ((fs.length : Int) != Xd arr) = true := by simpa using hd
      clear hh hd
      go_enter Tryz.func158, Tryz.ntmps158
      go_wp2
      go_ret
      exact ⟨by rw [HE.out]; rfl, grownBy_refl _ _⟩
end Go.Proofs.YtblpknkgjkbacaaGreatDoor
namespace Go.Proofs.YtblpknkgjkbacaaGreatDoor
open Go.RowKit Go.Maps Go.WideMaps
variable {w w' : World}
/-- An expression: its operator, its number, its form, its array, its indices, its arguments. -/
inductive ExprD where
  | mk (op n c : Int) (ts : List TermD) (arr : ByteArray) (subs : List CondD) (args : List ExprD) : ExprD
mutual
/-- What is wrong with an expression at a depth, where tables and names are known. -/
def exprE (Dd : Table) (Xd : ByteArray → Int) (X : ByteArray → Bool) : Nat → ExprD → Int
  | d, .mk op n c ts arr subs args =>
    if 12 < d then 2 else if op < 1 ∨ 6 < op then 4
    else if (args.length : Int) ≠ argsN op ∨ moreE op n c ts.length arr subs.length = true then 3
    else if n < 0 ∨ 1000003 ≤ n then 1
    else if op = 2 then inErr X c ts else if op = 3 then placeE Dd Xd X arr subs else exprsE Dd Xd X (d + 1) args
/-- The first error of some expressions. -/
def exprsE (Dd : Table) (Xd : ByteArray → Int) (X : ByteArray → Bool) : Nat → List ExprD → Int
  | _, [] => 0
  | d, x :: r => if exprE Dd Xd X d x = 0 then exprsE Dd Xd X d r else exprE Dd Xd X d x
end
/-- Seven cells of a row. -/
def SevenAt (w : World) (b off : Nat) (v0 v1 v2 v3 v4 v5 v6 : Value) : Prop :=
  w.cell? ⟨b, off, none⟩ = some v0 ∧ w.cell? ⟨b, off + 1, none⟩ = some v1 ∧ w.cell? ⟨b, off + 2, none⟩ = some v2 ∧ w.cell? ⟨b, off + 3, none⟩ = some v3 ∧ w.cell? ⟨b, off + 4, none⟩ = some v4 ∧ w.cell? ⟨b, off + 5, none⟩ = some v5 ∧ w.cell? ⟨b, off + 6, none⟩ = some v6
theorem SevenAt.kept {b off : Nat} {v0 v1 v2 v3 v4 v5 v6 : Value} (h : SevenAt w b off v0 v1 v2 v3 v4 v5 v6) (hg : w.grownBy w' none) : SevenAt w' b off v0 v1 v2 v3 v4 v5 v6 := by
  obtain ⟨h0, h1, h2, h3, h4, h5, h6⟩ := h
  exact ⟨hg.cell h0 (by simp), hg.cell h1 (by simp), hg.cell h2 (by simp), hg.cell h3 (by simp), hg.cell h4 (by simp), hg.cell h5 (by simp), hg.cell h6 (by simp)⟩
mutual
/-- The fields of an expression. -/
def ExprF (w : World) (v0 v1 v2 v3 v4 v5 v6 : Value) : ExprD → Prop
  | .mk op n c ts arr subs args => (v0 = .int .i64 op ∧ -9223372036854775808 ≤ op ∧ op ≤ 9223372036854775807) ∧ (v1 = .int .i64 n ∧ -9223372036854775808 ≤ n ∧ n ≤ 9223372036854775807) ∧
    (v2 = .int .i64 c ∧ -9223372036854775808 ≤ c ∧ c ≤ 9223372036854775807) ∧ TermsAt w v3 ts ∧ (v4 = .string arr ∧ arr.size ≤ maxLen) ∧ CondsAt w v5 subs ∧
    ∃ p cap, v6 = .slice p args.length cap ∧ args.length ≤ 1000000 ∧ ExprL w p 0 args
/-- Expressions in a row, from a place on. -/
def ExprL (w : World) (p : Option Addr) : Nat → List ExprD → Prop
  | _, [] => True
  | j, x :: r => (∃ b off v0 v1 v2 v3 v4 v5 v6, p = some ⟨b, off, none⟩ ∧ SevenAt w b (off + j * 7) v0 v1 v2 v3 v4 v5 v6 ∧ ExprF w v0 v1 v2 v3 v4 v5 v6 x) ∧ ExprL w p (j + 1) r
end
mutual
theorem exprF_kept (hg : w.grownBy w' none) : ∀ (x : ExprD) (v0 v1 v2 v3 v4 v5 v6 : Value), ExprF w v0 v1 v2 v3 v4 v5 v6 x → ExprF w' v0 v1 v2 v3 v4 v5 v6 x
  | .mk op n c ts arr subs args, v0, v1, v2, v3, v4, v5, v6, h => by
    unfold ExprF at h ⊢
    obtain ⟨h0, h1, h2, h3, h4, h5, p, cap, h6, h7, h8⟩ := h
    exact ⟨h0, h1, h2, h3.kept hg, h4, h5.kept hg, p, cap, h6, h7, exprL_kept hg args p 0 h8⟩
theorem exprL_kept (hg : w.grownBy w' none) : ∀ (l : List ExprD) (p : Option Addr) (j : Nat), ExprL w p j l → ExprL w' p j l
  | [], _, _, _ => by unfold ExprL; trivial
  | x :: r, p, j, h => by
    unfold ExprL at h ⊢
    obtain ⟨⟨b, off, v0, v1, v2, v3, v4, v5, v6, hp, h1, h2⟩, h3⟩ := h
    exact ⟨⟨b, off, v0, v1, v2, v3, v4, v5, v6, hp, h1.kept hg, exprF_kept hg x _ _ _ _ _ _ _ h2⟩, exprL_kept hg r p (j + 1) h3⟩
end
theorem exprL_at {p : Option Addr} : ∀ {l : List ExprD} {i k : Nat} {x : ExprD}, ExprL w p i l → l[k]? = some x → ∃ b off v0 v1 v2 v3 v4 v5 v6, p = some ⟨b, off, none⟩ ∧ SevenAt w b (off + (i + k) * 7) v0 v1 v2 v3 v4 v5 v6 ∧ ExprF w v0 v1 v2 v3 v4 v5 v6 x
  | [], i, k, x, _, h => by simp at h
  | y :: r, i, 0, x, h, hk => by
    obtain rfl : y = x := by simpa using hk
    unfold ExprL at h
    simpa using h.1
  | y :: r, i, k + 1, x, h, hk => by
    unfold ExprL at h
    have := exprL_at h.2 (by simpa using hk : r[k]? = some x)
    rwa [show i + 1 + k = i + (k + 1) by omega] at this
theorem exprsE_drop {Dd : Table} {Xd : ByteArray → Int} {X : ByteArray → Bool} {d : Nat} {l : List ExprD} {k : Nat} {x : ExprD} (h : l[k]? = some x) : exprsE Dd Xd X d (l.drop k) = if exprE Dd Xd X d x = 0 then exprsE Dd Xd X d (l.drop (k + 1)) else exprE Dd Xd X d x := by
  obtain ⟨hk, rfl⟩ := List.getElem?_eq_some_iff.1 h
  rw [List.drop_eq_getElem_cons hk]
  rw [exprsE]
end Go.Proofs.YtblpknkgjkbacaaGreatDoor
