/-
 The terms of a drawn form: those that are not 0, in order.
 slices.Clone and slices.DeleteFunc at terms.
-/
import Derived.Test.YtfilcaolgfghcaaGreatAReady
import Derived.Test.YtfilcaolgfghcaaGreatClear
namespace Go.Proofs.YtfilcaolgfghcaaGreat
open Go.RowKit
attribute [local go_sem ↓] Go.wp_at_zero Go.wp_at_succ

abbrev TermD := ByteArray × Int

/-- A row of terms of the call's own. -/
def TermRow (w : World) (P : Nat) (v : Value) (ts : List TermD) : Prop := w.ownsRow P 66 2 v ts.length (ts.flatMap termCells)

theorem TermRow.cells {w : World} {P : Nat} {p : Option Addr} {n cap : Nat} {ts : List TermD} (h : TermRow w P (.slice p n cap) ts) {j : Nat} {t : TermD} (hj : ts[j]? = some t) :
    ∃ g, p = some ⟨g, 0, none⟩ ∧ w.cell? ⟨g, j * 2, none⟩ = some (.string t.1) ∧ w.cell? ⟨g, j * 2 + 1, none⟩ = some (.int .i64 t.2) := by
  have e0 := flat_get (f := termCells) (k := 2) (fun _ => rfl) hj (i := 0) (v := .string t.1) rfl
  have e1 := flat_get (f := termCells) (k := 2) (fun _ => rfl) hj (i := 1) (v := .int .i64 t.2) rfl
  obtain ⟨g, c, hv, _, k0⟩ := own_cell h e0
  obtain ⟨g', c', hv', _, k1⟩ := own_cell h e1
  obtain ⟨rfl, _, _⟩ := Value.slice.inj hv
  obtain ⟨hg, _, _⟩ := Value.slice.inj hv'
  simp only [Option.some.injEq, Addr.mk.injEq, and_true] at hg
  subst hg
  exact ⟨g, rfl, k0, k1⟩

theorem TermRow.kept {w w' : World} {P : Nat} {v : Value} {ts : List TermD} (h : TermRow w P v ts) (hg : w.grownBy w' none) : TermRow w' P v ts := owns_kept h hg

set_option maxHeartbeats 400000 in
theorem form1_any (n : ByteArray) (z : Int) (w : World) :
    Calls Tryz.prog 65 #[.agg #[.string n, .int .i64 z]] w (Gives (.bool (z == 0)) w) := by
  go_enter Tryz.func65, Tryz.ntmps65
  go_wp2
  all_goals
    go_ret
    exact ⟨ret_bool (by simp [*]), World.grownBy_alloc _ _ _⟩

def SomeIndex (n : Nat) (w : World) (e : Ending) (w' : World) : Prop := ∃ k : Int, (k = -1 ∨ (0 ≤ k ∧ k < n ∧ (k == -1) = false)) ∧ e = .returned (.int .i64 k) ∧ w.grownBy w' none

set_option maxRecDepth 100000 in
set_option maxHeartbeats 1000000 in
theorem indexTerm_any (P : Nat) (v : Value) (ts : List TermD) (w : World) (hl : ts.length ≤ 1000000) (h : TermRow w P v ts) :
    Calls Tryz.prog 93 #[v, .func (.func 65) #[] #[]] w (SomeIndex ts.length w) := by
  obtain ⟨p, cap, rfl⟩ := own_form h
  have H := Lib.hid h
  clear h
  go_enter Tryz.func93, Tryz.ntmps93
  go_wp2
  go_loopw [8] (fun i wr => ∃ k : Nat, k ≤ ts.length ∧ i = .int .i64 k ∧ Hid (w.grownBy wr none)) (fun i _ => ts.length - (intOf i).toNat)
  case atStart => exact ⟨0, Nat.zero_le _, rfl, grownBy_refl _ _⟩
  case round =>
    obtain ⟨k, hk, rfl, HG⟩ := hrel
    by_cases hlt : k < ts.length
    · have h0 := List.getElem?_eq_getElem hlt
      obtain ⟨g, rfl, h1, h2⟩ := (H.out.kept HG.out).cells h0
      generalize hn : (ts[k]).1 = n at *
      generalize hz : (ts[k]).2 = z at *
      clear h0 hn hz
      go_wp2_with (first | (go_at_call 65; refine (form1_any n z wr).mono ?_; rintro e w' ⟨rfl, hg1⟩; have G1 := Lib.hid hg1; clear hg1))
      · go_ret
        exact ⟨k, .inr ⟨by omega, by omega, by rw [Bool.eq_false_iff]; intro e; simp at e⟩, rfl, grownBy_trans HG.out G1.out⟩
      · go_roundw
        case rel => exact ⟨k + 1, by omega, by go_num, grownBy_trans HG.out G1.out⟩
        case measure => simp [intOf]; omega
    · obtain rfl : k = ts.length := by omega
      go_wp2
      go_ret
      exact ⟨-1, .inl rfl, rfl, HG.out⟩

end Go.Proofs.YtfilcaolgfghcaaGreat

namespace Go.Proofs.YtfilcaolgfghcaaGreat
open Go.RowKit
attribute [local go_sem ↓] Go.wp_at_zero Go.wp_at_succ

def ClonedTerms (ts : List TermD) (w : World) (e : Ending) (w' : World) : Prop :=
  ∃ v, e = .returned v ∧ TermRow w' w.heap.size v ts ∧ w.grownBy w' none

set_option maxRecDepth 100000 in
set_option maxHeartbeats 1000000 in
theorem cloneTerm_any (b off cap : Nat) (ts : List TermD) (w : World) (hl : ts.length ≤ 1000) (hc : ∀ j u, (ts.flatMap termCells)[j]? = some u → w.cell? ⟨b, off + j, none⟩ = some u) :
    Calls Tryz.prog 64 #[.slice (some ⟨b, off, none⟩) ts.length cap] w (ClonedTerms ts w) := by
  have H := Lib.hid hc
  clear hc
  obtain ⟨i0, hi, hz0, hz1, hz2⟩ := info_parts Tryz.infoTerm
  have hnil := fun W => Lib.run_eql_slice_nil (P := Tryz.prog) W 31 66 (some ⟨b, off, none⟩) ts.length cap 0 0 Tryz.underlying31
  go_enter Tryz.func64, Tryz.ntmps64
  go_wp2_with (first | (at_builtin; go_must (refine wpList_append_own _ rfl _ _ 31 rfl w.heap.size 66 i0 (.agg #[.string ByteArray.empty, .int .i64 0]) 2 24 Tryz.underlying31 hi hz0 hz1 hz2 rfl (by decide) _ 0 [] rfl (World.ownsRow_made _ _ _ (Nat.le_refl _) (Nat.zero_le _) rfl) ⟨b, off, none⟩ ts.length cap (ts.flatMap termCells) rfl (flat_length (f := termCells) (k := 2) (fun _ => rfl) ts) ?_ ?_ (by unfold maxLen; omega) (by omega) (by simp) ?_)))
  · intro j u hj
    have hadd : (⟨b, off, none⟩ : Addr).add j = ⟨b, off + j, none⟩ := by unfold Addr.add; split <;> simp_all
    rw [hadd]
    exact (World.grownBy_alloc _ _ none).cell (H.out j u hj) (by simp)
  · intro u hu
    obtain ⟨t, _, ht⟩ := List.mem_flatMap.1 hu
    simp [termCells] at ht
    rcases ht with rfl | rfl <;> rfl
  · intro v' w' ho hg _
    have HO := Lib.hid ho
    have HG := Lib.hid hg
    clear ho hg
    go_wp2
    go_ret
    exact ⟨v', rfl, HO.out, grown_own (World.grownBy_alloc _ _ _) HG.out (fun i hi => by simp [Value.ownBlock] at hi; omega)⟩

theorem flat_set {us : List TermD} {i : Nat} (h : i < us.length) (t : TermD) : ((us.flatMap termCells).set (i * 2) (.string t.1)).set (i * 2 + 1) (.int .i64 t.2) = (us.set i t).flatMap termCells := by
  induction us generalizing i with
  | nil => simp at h
  | cons a r ih =>
    cases i with
    | zero => rfl
    | succ i =>
      have e : (i + 1) * 2 = (i * 2) + 1 + 1 := by omega
      rw [e]
      simp only [List.flatMap_cons, termCells, List.cons_append, List.nil_append, List.set_cons_succ, List.cons.injEq, true_and]
      exact ih (by simpa using h)

theorem TermRow.stored {w : World} {P g n cap : Nat} {us : List TermD} (h : TermRow w P (.slice (some ⟨g, 0, none⟩) n cap) us) {i : Nat} (hi : i < us.length) (t : TermD) :
    TermRow ((w.setCell ⟨g, i * 2, none⟩ (.string t.1)).setCell ⟨g, i * 2 + 1, none⟩ (.int .i64 t.2)) P (.slice (some ⟨g, 0, none⟩) n cap) (us.set i t) := by
  obtain ⟨p, c, hv⟩ := own_form h
  cases hv
  have a := (World.ownsRow.stored h (i * 2) (.string t.1)).1
  have b := (World.ownsRow.stored a (i * 2 + 1) (.int .i64 t.2)).1
  unfold TermRow
  rw [← flat_set hi t, List.length_set]
  exact b

def DelPost (P : Nat) (v : Value) (ts : List TermD) (w : World) (e : Ending) (w' : World) : Prop :=
  ∃ n cap us g, e = .returned (.slice (some ⟨g, 0, none⟩) n cap) ∧ us.length = n ∧ n ≤ ts.length ∧ v.ownBlock = some g ∧ TermRow w' P (.slice (some ⟨g, 0, none⟩) n cap) us ∧ (∀ t ∈ us, t ∈ ts) ∧ w.grownBy w' (some g)

theorem own_free {w : World} {P : Nat} {e : TypeId} {size n cap g : Nat} {xs : List Value} (h : w.ownsRow P e size (.slice (some ⟨g, 0, none⟩) n cap) n xs) : n ≤ cap ∧ cap ≤ maxLen ∧ P ≤ g ∧ (∀ j, w.frozen? ⟨g, j, none⟩ = false) ∧ ∃ cur, w.heap[g]? = some (.cells cur e (0, 0)) ∧ cur.size = cap * size ∧ cur.toList.take (n * size) = xs := by
  rcases h.2 with ⟨hv, _⟩ | ⟨g', cap', cur, hv, hb, hg, hn, hc, hs, ht⟩
  · cases hv
  · obtain ⟨hgg, _, rfl⟩ := Value.slice.inj hv
    simp only [Option.some.injEq, Addr.mk.injEq, and_true] at hgg
    subst hgg
    exact ⟨hn, hc, hb, fun j => by simp [World.frozen?, hg], cur, hg, hs, ht⟩

theorem TermRow.free {w : World} {P g n cap : Nat} {us : List TermD} (h : TermRow w P (.slice (some ⟨g, 0, none⟩) n cap) us) : n = us.length ∧ n ≤ cap ∧ cap ≤ maxLen ∧ P ≤ g ∧ ∀ j, w.frozen? ⟨g, j, none⟩ = false := by
  obtain ⟨p, c, hv⟩ := own_form h
  cases hv
  obtain ⟨h1, h2, h3, h4, _⟩ := own_free h
  exact ⟨rfl, h1, h2, h3, h4⟩

theorem TermRow.block {w : World} {P g n cap : Nat} {us : List TermD} (h : TermRow w P (.slice (some ⟨g, 0, none⟩) n cap) us) : ∃ cur, w.heap[g]? = some (.cells cur 66 (0, 0)) ∧ cur.size = cap * 2 := by
  obtain ⟨p, c, hv⟩ := own_form h
  cases hv
  obtain ⟨_, _, _, _, cur, h5, h6, _⟩ := own_free h
  exact ⟨cur, h5, h6⟩

theorem TermRow.cut {w w' : World} {P g n cap i : Nat} {us : List TermD} {cur : Array Value} (h : TermRow w P (.slice (some ⟨g, 0, none⟩) n cap) us) (hi : i ≤ us.length) (hc : w.heap[g]? = some (.cells cur 66 (0, 0))) (hp : ClearPost g (i * 2) cur 66 w w') :
    TermRow w' P (.slice (some ⟨g, 0, none⟩) i cap) (us.take i) := by
  obtain ⟨p, c, hv⟩ := own_form h
  cases hv
  obtain ⟨h1, h2, h3, _, cur0, h5, h6, h7⟩ := own_free h
  rw [hc] at h5
  cases h5
  obtain ⟨cur', k1, k2, k3, _⟩ := hp
  have hl : (us.take i).length = i := by simp; omega
  have hx : cur'.toList.take (i * 2) = (us.take i).flatMap termCells := by
    rw [k3]
    have e : us = us.take i ++ us.drop i := (List.take_append_drop i us).symm
    have e2 : us.flatMap termCells = (us.take i).flatMap termCells ++ (us.drop i).flatMap termCells := by rw [← List.flatMap_append, ← e]
    have e3 : cur.toList.take (i * 2) = (us.flatMap termCells).take (i * 2) := by rw [← h7, List.take_take, Nat.min_eq_left (by omega)]
    rw [e3, e2, List.take_left' (by rw [flat_length (f := termCells) (k := 2) (fun _ => rfl), hl])]
  unfold TermRow
  rw [hl]
  exact ⟨by rw [flat_length (f := termCells) (k := 2) (fun _ => rfl), hl], .inr ⟨g, cap, cur', rfl, h3, k1, by omega, h2, by rw [k2, h6], hx⟩⟩

theorem Tryz.zeroTerm (w : World) : (zeroValue 66).run Tryz.prog w = .ok (.agg #[.string ByteArray.empty, .int .i64 0]) w := by kernel_rfl

set_option maxRecDepth 100000 in
set_option maxHeartbeats 2000000 in
theorem deleteTerm_any (P g n cap : Nat) (ts : List TermD) (w : World) (hl : ts.length ≤ 1000) (h : TermRow w P (.slice (some ⟨g, 0, none⟩) n cap) ts) :
    Calls Tryz.prog 63 #[.slice (some ⟨g, 0, none⟩) n cap, .func (.func 65) #[] #[]] w (DelPost P (.slice (some ⟨g, 0, none⟩) n cap) ts w) := by
  obtain ⟨p, c, hv⟩ := own_form h
  cases hv
  obtain ⟨f1, f2, f3, f4, _⟩ := own_free h
  have H := Lib.hid h
  clear h
  go_enter Tryz.func63, Tryz.ntmps63
  go_wp2_with (first | (go_at_call 93; go_must (refine (indexTerm_any P _ ts w (by omega) H.out).mono ?_; rintro e w1 ⟨k0, hk0, rfl, hg1⟩; have HR1 := Lib.hid (H.out.kept hg1); have HG1 := Lib.hid (grownBy_any (some g) hg1); clear hg1; rcases hk0 with rfl | ⟨q1, q2, q3⟩)))
  · go_ret
    exact ⟨_, _, ts, g, rfl, rfl, Nat.le_refl _, rfl, HR1.out, fun t h => h, HG1.out⟩
  · obtain ⟨i0, rfl⟩ : ∃ i : Nat, k0 = i := ⟨k0.toNat, by omega⟩
    go_wp2
    go_loopw [5, 6] (fun i j wr => ∃ (ki kj : Nat) (us : List TermD), ki < kj ∧ kj ≤ ts.length ∧ i = .int .i64 ki ∧ j = .int .i64 kj ∧ Hid (us.length = ts.length) ∧ Hid (TermRow wr P (.slice (some ⟨g, 0, none⟩) ts.length cap) us) ∧ Hid (∀ t ∈ us, t ∈ ts) ∧ Hid (w.grownBy wr (some g))) (fun _ j _ => ts.length - (intOf j).toNat)
    case atStart => exact ⟨i0, i0 + 1, ts, by omega, by omega, rfl, by go_num, rfl, HR1.out, fun t h => h, HG1.out⟩
    case round =>
      obtain ⟨ki, kj, us, hij, hj, rfl, rfl, HUl, HR, HM, HG⟩ := hrel
      by_cases hlt : kj < ts.length
      · have hju : kj < us.length := by rw [HUl.out]; exact hlt
        have hiu : ki < us.length := by omega
        obtain ⟨g', hg', c0, c1⟩ := HR.out.cells (List.getElem?_eq_getElem hju)
        obtain ⟨g2, hg2, d0, d1⟩ := HR.out.cells (List.getElem?_eq_getElem hiu)
        simp only [Option.some.injEq, Addr.mk.injEq, and_true] at hg' hg2
        subst hg' hg2
        have z4 := HR.out.free.2.2.2.2
        have HMem := Lib.hid (HM.out _ (List.getElem_mem hju))
        have HX := Lib.hid (show us[kj] = ((us[kj]).1, (us[kj]).2) from rfl)
        generalize hn : (us[kj]).1 = nm at *
        generalize hz : (us[kj]).2 = z at *
        generalize (us[ki]).1 = nm2 at *
        generalize (us[ki]).2 = z2 at *
        have HNz := Lib.hid (show (nm, z) ∈ ts by rw [← HX.out]; exact HMem.out)
        have HIu := Lib.hid hiu
        clear HX HMem hn hz
        clear hju hiu
        go_wp2_with (first | (go_at_call 65; go_must (refine (form1_any nm z _).mono ?_; rintro e w2 ⟨rfl, hg2⟩; have G2 := Lib.hid (grownBy_trans (World.grownBy_alloc wr (.cells #[.string nm, .int .i64 z] 66) none) hg2); have b0 := hg2.cell (a := ⟨wr.heap.size, 0, none⟩) (v := .string nm) (by simp) (by simp); have b1 := hg2.cell (a := ⟨wr.heap.size, 1, none⟩) (v := .int .i64 z) (by simp) (by simp); have e0 := G2.out.cell d0 (by simp); have e1 := G2.out.cell d1 (by simp); have ef := (HR.out.kept G2.out).free.2.2.2.2; clear hg2)))
        · have hiu := HIu.out
          go_roundw
          case rel =>
            refine ⟨ki + 1, kj + 1, us.set ki (nm, z), by omega, by omega, by go_num, by go_num, ?_, ?_, ?_, ?_⟩
            · show _ = _
              rw [List.length_set]
              exact HUl.out
            · exact (HR.out.kept G2.out).stored hiu (nm, z)
            · intro t ht
              rcases List.mem_or_eq_of_mem_set ht with ht | rfl
              · exact HM.out t ht
              · exact HNz.out
            · exact grownBy_trans HG.out (grownBy_trans (grownBy_any _ G2.out) (grownBy_trans (grown_set _ _ _ _) (grown_set _ _ _ _)))
          case measure => simp [intOf]; omega
        · go_roundw
          case rel => exact ⟨ki, kj + 1, us, by omega, by omega, by go_num, by go_num, HUl.out, HR.out.kept G2.out, HM.out, grownBy_trans HG.out (grownBy_any _ G2.out)⟩
          case measure => simp [intOf]; omega
      · obtain rfl : kj = ts.length := by omega
        obtain ⟨cur, z1, z2⟩ := HR.out.block
        have hi1 : (ki : Int) ≤ (ts.length : Int) := by omega
        have hi2 : (0 : Int) ≤ (ki : Int) := by omega
        have hi3 : (ki : Int) ≤ (cap : Int) := by omega
        obtain ⟨w2, hrun, hcp⟩ := run_clear_row (P := Tryz.prog) wr 31 66 0 (.agg #[.string ByteArray.empty, .int .i64 0]) 2 Tryz.underlying31 Tryz.zeroTerm rfl (by decide) g (ki * 2) (ts.length - ki) (cap - ki) cur 66 z1 (by omega)
        have HC := Lib.hid hcp
        clear hcp
        go_wp2
        go_ret
        have hul := HUl.out
        refine ⟨_, _, us.take ki, g, rfl, by simp; omega, by omega, rfl, HR.out.cut (by omega) z1 HC.out, fun t ht => HM.out t (List.mem_of_mem_take ht), ?_⟩
        obtain ⟨_, _, _, _, hgg⟩ := HC.out
        exact grownBy_trans HG.out hgg

end Go.Proofs.YtfilcaolgfghcaaGreat
