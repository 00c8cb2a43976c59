/-
 wbref1.poly.form at a table of one name.
-/
import Derived.Test.YtfilcaolgfghcaaGreatLay
import Derived.Test.YtfilcaolgfghcaaGreatAReady
import Derived.Test.YtfilcaolgfghcaaGreatValue
import Derived.Test.YtfilcaolgfghcaaGreatTermDel
import Derived.Test.YtfilcaolgfghcaaGreatSpaceRow
import Derived.Deep.AppendLies
import Derived.WalkSpells
namespace Go.Proofs.YtfilcaolgfghcaaGreat
open Go.RowKit Go.Maps Go.WideMaps Go.Sort Go.Shelf
attribute [local go_sem ↓] Go.wp_at_zero Go.wp_at_succ

/-- A table of one name. -/
def oneT (x : ByteArray) : Table := (.map [] : Table).put (strL x) (lit64 1)
theorem oneT_keys (x : ByteArray) : strKeys (oneT x) = [x.data.toList] := rfl
theorem oneT_size (x : ByteArray) : Maps.size (oneT x) = 1 := rfl
theorem oneT_self (x : ByteArray) : (oneT x).atKey (strL x) (lit64 0) = lit64 1 := atKey_put_same isMap_empty (strL_key _) _ _
theorem oneT_none {x : ByteArray} (h : x ≠ ByteArray.empty) : (oneT x).atKey (strL ByteArray.empty) (lit64 0) = lit64 0 := by
  unfold oneT
  rw [atKey_put_other (fun e => h (strL_inj e).symm)]
  rfl

theorem sortsStr (m : Nat) : AnyZ.SortsIn Tryz.prog Tryz.sortedStr_ren Fence.wide m :=
  ⟨fun blk off cap ss W hH hb hs => callsIn_wide.2 (AnyM.slices_Sort_string Tryz.sortStr blk off cap ss W hH hb hs), fun p cap W => callsIn_wide.2 (AnyM.slices_Sort_string_none Tryz.sortStr p cap W)⟩

def iterV (W : World) : Value := .func (.func 118) #[] #[.pointer (some ⟨W.heap.size, 0, none⟩)]

theorem keysPoly_any (b : Nat) (W : World) : Calls Tryz.prog 89 #[.map (some b)] W (fun e w' => e = .returned (iterV W) ∧ w' = W.alloc (.cells #[.map (some b)] 99)) :=
  callsIn_wide.1 (AnyZ.keys_in Tryz.keysPoly Fence.wide 5 trivial rfl (some b) W)

theorem enc_bytes (x : ByteArray) : encStr x.data.toList = .string x := by
  show Value.string ⟨x.data.toList.toArray⟩ = _
  rw [Array.toArray_toList]

set_option maxHeartbeats 1000000 in
/-- The only key, in a row of its own. -/
theorem sortedOne_any (x : ByteArray) (b : Nat) (w : World) (hM : MapAt w b 1 (oneT x)) :
    Calls Tryz.prog 88 #[iterV w] (w.alloc (.cells #[.map (some b)] 99)) (fun e w' => ∃ q cap, e = .returned (.slice q 1 cap) ∧ w'.ownsRow (w.heap.size + 1) 9 1 (.slice q 1 cap) 1 [.string x] ∧ (w.alloc (.cells #[.map (some b)] 99)).grownBy w' none) := by
  have hlt := World.ownsMap.lt hM
  have hseq : SeqGives Fence.wide 2 Tryz.prog 118 #[.pointer (some ⟨w.heap.size, 0, none⟩)] encStr (fun ss => ss.Perm (strKeys (oneT x))) (Maps.size (oneT x)) (w.alloc (.cells #[.map (some b)] 99)) :=
    AnyZ.keys_gives (ρ := Tryz.keysPoly_ren) { Tryz.keysPoly with } Fence.wide _ trivial rfl (by omega) w.heap.size b 1 (oneT x) _ (by simp) (by simp) (by
      obtain ⟨es, clock, hb, hF, hs, hD⟩ := hM
      exact ⟨es, clock, (Below.heap_alloc _ _ b hlt).trans hb, hF, hs, hD⟩)
  have h := AnyZ.sorted_in Tryz.sortedStr Fence.wide 5 trivial trivial trivial trivial rfl (by omega) (sortsStr _) (enters_of Tryz.func117 (by kernel_rfl) rfl) 118 #[.pointer (some ⟨w.heap.size, 0, none⟩)] trivial (enters_of Tryz.func118 (by kernel_rfl) rfl) _ _ (by rw [oneT_size]; unfold maxLen; omega) (by rw [oneT_size]; omega) _ hseq
  refine (callsIn_wide.1 h).mono ?_
  rintro e w' ⟨v, ss, rfl, hS, hrow, hnil, hb⟩
  rw [oneT_keys] at hS
  obtain rfl := List.perm_singleton.1 hS
  rw [List.mergeSort_singleton] at hrow
  obtain ⟨q, cap, rfl⟩ := own_form hrow
  refine ⟨q, cap, rfl, ?_, hb.os, hb.tape, hb.output, hb.size, fun k hk _ => hb.block k hk⟩
  have h2 := hrow
  simp only [List.map_cons, List.map_nil, enc_bytes, World.size_alloc] at h2
  exact h2

/-- What stands behind the round: the form's box, the result's, the one term. -/
structure OnePost (x : ByteArray) (w wr : World) (v : Value) : Prop where
  box : wr.heap[w.heap.size + 1]? = some (.cells #[.int .i64 0, v] 33 (0, 0))
  res : wr.heap[w.heap.size]? = some (.cells #[.int .i64 0, .slice none 0 0] 33 (0, 0))
  row : wr.ownsRow (w.heap.size + 2) 66 2 v 1 (termCells (x, 1))
  grown : w.grownBy wr none

set_option maxRecDepth 100000 in
set_option maxHeartbeats 4000000 in
theorem polyForm_any (x : ByteArray) (Bm : Nat) (w : World) (hx : nameB x = true) (hM : MapAt w Bm 1 (oneT x)) :
    Calls Tryz.prog 58 #[.map (some Bm)] w (fun e w' => ∃ p cap, e = .returned (.agg #[.int .i64 0, .slice p 1 cap]) ∧ TermRow w' w.heap.size (.slice p 1 cap) [(x, 1)] ∧ w.grownBy w' none) := by
  have hne := name_ne_empty hx
  have hx40 : x.size ≤ 40 := by
    unfold nameB at hx
    simp at hx
    omega
  have hneb := name_not_isEmpty hx
  have HN := Lib.hid (oneT_none hne)
  have HSelf := Lib.hid (oneT_self x)
  have HM := Lib.hid hM
  obtain ⟨j0, hj0, hy0, hy1, hy2⟩ := info_parts Tryz.infoTerm
  clear hM hne hx
  go_enter Tryz.func58, Tryz.ntmps58
  go_upto_region 2 with (at_lookup; go_must (refine wpList_lookup_own_int _ rfl _ _ 99 rfl 9 3 .i64 Tryz.lawStr Tryz.underlying99 Tryz.underlying3 (Tryz.zeroInt _) Bm 1 (oneT x) rfl (World.ownsMap.alloc HM.out _) _ _ rfl (key_str (Nat.zero_le _)) ?_; intro c' hat hwc; obtain rfl : c' = 0 := (by have := hat.symm.trans HN.out; simpa [lit64] using this); clear hat hwc))
  obtain ⟨W1, hW1⟩ : ∃ W1, W1 = (w.alloc (.cells #[.int .i64 0, .slice none 0 0] 33)).alloc (.cells #[.int .i64 0, .slice none 0 0] 33) := ⟨_, rfl⟩
  rw [← hW1]
  have hres : W1.heap[w.heap.size]? = some (.cells #[.int .i64 0, .slice none 0 0] 33 (0, 0)) := by
    subst hW1
    exact heap_keep (heap_alloc_new w _) (World.grownBy_alloc _ _ none) (by simp)
  have hbox : W1.heap[w.heap.size + 1]? = some (.cells #[.int .i64 0, .slice none 0 0] 33 (0, 0)) := by
    subst hW1
    have h := heap_alloc_new (w.alloc (.cells #[.int .i64 0, .slice none 0 0] 33)) (.cells #[.int .i64 0, .slice none 0 0] 33)
    simpa using h
  have hg1 : w.grownBy W1 none := by
    subst hW1
    exact grownBy_trans (World.grownBy_alloc _ _ _) (World.grownBy_alloc _ _ _)
  have hsz1 : W1.heap.size = w.heap.size + 2 := by subst hW1; simp
  have HRes := Lib.hid hres
  have HBox := Lib.hid hbox
  have HG1 := Lib.hid hg1
  have HM1 : Hid (MapAt W1 Bm 1 (oneT x)) := World.ownsMap.kept HM.out hg1 (by simp)
  have HS1 := Lib.hid hsz1
  clear hW1 hres hbox hg1 hsz1
  go_upto_region 3 with (first
    | (go_at_call 89; go_must (refine (keysPoly_any Bm _).mono ?_; rintro e w' ⟨rfl, rfl⟩))
    | (go_at_call 88; go_must (refine (sortedOne_any x Bm _ HM1.out).mono ?_; rintro e w2 ⟨q, qcap, rfl, hrow, hg2⟩; obtain ⟨g, cap', hv, hgl, hcell⟩ := own_cell (j := 0) hrow rfl; obtain ⟨rfl, _, _⟩ := Value.slice.inj hv; have HC2 := Lib.hid hcell; have HG2 := Lib.hid (grownBy_trans (World.grownBy_alloc _ _ _) hg2); clear hrow hg2 hv hcell)))
  have HM2 : Hid (MapAt w2 Bm 1 (oneT x)) := World.ownsMap.kept HM1.out HG2.out (by simp)
  go_loopw [13] (fun i wr => ∃ k : Nat, k ≤ 1 ∧ i = .int .i64 k ∧ Hid (k = 0 → wr = w2) ∧ Hid (k = 1 → ∃ p tcap, OnePost x w wr (.slice p 1 tcap))) (fun i _ => 1 - (intOf i).toNat)
  case atStart => exact ⟨0, by omega, rfl, fun _ => rfl, fun h => by omega⟩
  case round =>
    obtain ⟨k, hk, rfl, H0, H1⟩ := hrel
    by_cases hlt : k < 1
    · obtain rfl : k = 0 := by omega
      obtain rfl := H0.out rfl
      have hcell := HC2.out
      have hs2 := HG2.out.size
      have hs1 := HS1.out
      have HB2 := Lib.hid (heap_keep HBox.out HG2.out (by simp))
      have HR2 := Lib.hid (heap_keep HRes.out HG2.out (by simp))
      have c1 : wr.cell? ⟨w.heap.size + 1, 1, none⟩ = some (.slice none 0 0) := by simp [World.cell?, HB2.out]
      clear hs1
      obtain ⟨c', hrun, hat, hwc⟩ := World.ownsMap.lookup_int HM2.out Tryz.lawStr Tryz.underlying99 Tryz.underlying3 (Tryz.zeroInt _) (key_str (s := x) (by unfold maxLen; omega))
      obtain rfl : c' = 1 := (by have := hat.symm.trans HSelf.out; simpa [lit64] using this)
      clear hat hwc
      go_wp2_with (first
        | (at_builtin; go_must (refine wpList_append_lies _ rfl _ _ 31 rfl (w.heap.size + 2) 66 j0 (.agg #[.string ByteArray.empty, .int .i64 0]) 2 24 Tryz.underlying31 hj0 hy0 hy1 hy2 rfl (by decide) (.slice none 0 0) 0 [] rfl (World.ownsRow_nil _ _ _ _) ⟨wr.heap.size, 0, none⟩ 1 1 (termCells (x, 1)) rfl rfl news_at (by simp [termCells, Value.oneCell']) (by decide) (by unfold maxLen; omega) (by omega) (by have := HS1.out; simp; omega) (wr.heap.size + 1) (by simp) ?_; intro g ncap w7 hown7 hgrow7 hat _; have O7 := Lib.hid hown7; have G7 := Lib.hid (grownBy_trans (World.grownBy_alloc _ _ _) hgrow7); have HB7 := Lib.hid (heap_keep HB2.out G7.out (by simp [Value.ownBlock])); have HR7 := Lib.hid (heap_keep HR2.out G7.out (by simp [Value.ownBlock])); have c7 : w7.cell? ⟨w.heap.size + 1, 1, none⟩ = some (.slice none 0 0) := (by simp [World.cell?, HB7.out]); have f7 : w7.frozen? ⟨w.heap.size + 1, 1, none⟩ = false := (by simp [World.frozen?, HB7.out]); clear hown7 hgrow7 hat)))
      go_roundw
      case rel =>
        have hg := grownBy_trans HG1.out (grownBy_trans HG2.out G7.out)
        have g2 := grown_set w7 (w.heap.size + 1) 1 (.slice (some ⟨g, 0, none⟩) 1 ncap)
        refine ⟨1, by omega, by go_num, fun h => by omega, fun _ => ⟨some ⟨g, 0, none⟩, ncap, ?_, heap_keep HR7.out g2 (by simp), World.ownsRow.kept O7.out g2 (own_ne O7.out (by omega)), grown_own hg g2 (fun k hk => by cases hk; omega)⟩⟩
        show (w7.heap.modify (w.heap.size + 1) _)[w.heap.size + 1]? = _
        rw [Array.getElem?_modify, if_pos rfl, HB7.out]
        simp
      case measure => simp [intOf]
    · obtain rfl : k = 1 := by omega
      obtain ⟨p, tcap, hO⟩ := H1.out rfl
      have HO := Lib.hid hO
      have c0 : wr.cell? ⟨w.heap.size + 1, 0, none⟩ = some (.int .i64 0) := by simp [World.cell?, hO.box]
      have c1 : wr.cell? ⟨w.heap.size + 1, 1, none⟩ = some (.slice p 1 tcap) := by simp [World.cell?, hO.box]
      have r0 : wr.cell? ⟨w.heap.size, 0, none⟩ = some (.int .i64 0) := by simp [World.cell?, hO.res]
      have r1 : wr.cell? ⟨w.heap.size, 1, none⟩ = some (.slice none 0 0) := by simp [World.cell?, hO.res]
      have rf : ∀ k, wr.frozen? ⟨w.heap.size, k, none⟩ = false := fun k => by simp [World.frozen?, hO.res]
      clear hO
      go_wp2
      obtain ⟨f1, f2⟩ := two_set HO.out.res (.int .i64 0) (.slice p 1 tcap)
      refine bodyPost_ret (results_cell_row rfl _ _ w.heap.size _ _ _ _ rfl f1 Tryz.underlying33 rfl Tryz.infoForm2) rfl ⟨p, tcap, rfl, ?_, grown_own HO.out.grown f2 (fun k hk => by cases hk; exact Nat.le_refl _)⟩
      have h := World.ownsRow.kept HO.out.row f2 (own_ne HO.out.row (by omega))
      exact owns_lower h (by omega)

end Go.Proofs.YtfilcaolgfghcaaGreat
