/-
 A table as a form.
-/
import Derived.Deep.AppendLies
import Derived.WalkSpells
import Derived.Deep.DeepMust
import Derived.Test.YtblpknkgjkbacaaGreatDoorQ06
import Derived.Test.YtblpknkgjkbacaaGreatDoorQ09
import Derived.Test.YtblpknkgjkbacaaGreatDoorQ10
namespace Go.Proofs.YtblpknkgjkbacaaGreatDoor
set_option linter.unusedVariables false
open Go.RowKit Go.Maps Go.WideMaps Go.Sort Go.Shelf
attribute [local go_sem ↓] Go.wp_at_zero Go.wp_at_succ
theorem sortsStr (m : Nat) : AnyZ.SortsIn Tryz.prog Tryz.sortedStr_ren Fence.wide m :=
  ⟨fun blk off cap ss W hH hb hs => callsIn_wide.2 (AnyM.slices_Sort_string Tryz.sortStr blk off cap ss W hH hb hs), fun p cap W => callsIn_wide.2 (AnyM.slices_Sort_string_none Tryz.sortStr p cap W)⟩
def iterV (W : World) : Value := .func (.func 74) #[] #[.pointer (some ⟨W.heap.size, 0, none⟩)]
theorem keysPoly_any (b : Nat) (W : World) : Calls Tryz.prog 59 #[.map (some b)] W (fun e w' => e = .returned (iterV W) ∧ w' = W.alloc (.cells #[.map (some b)] 78)) :=
  callsIn_wide.1 (AnyZ.keys_in Tryz.keysPoly Fence.wide 5 trivial rfl (some b) W)
def keyN (s : List UInt8) : ByteArray := ⟨s.toArray⟩
theorem keyN_list (s : List UInt8) : (keyN s).toList = s := by rw [ByteArray.toList_eq]; rfl
theorem keyN_lit (s : List UInt8) : strL (keyN s) = .string s := rfl
abbrev leL (x y : List UInt8) : Bool := decide (x ≤ y)
/-- The keys of a table, rising. -/
structure KeysUp (D : Table) (ns : List ByteArray) : Prop where
  up : ns.Pairwise upB
  mem : ∀ n, n ∈ ns ↔ has D (strL n) = true
  len : ns.length ≤ 900
  size : ∀ n ∈ ns, n.size ≤ maxLen
theorem le_strict {a b : List UInt8} (h : a ≤ b) (hn : a ≠ b) : a < b := by
  by_cases h1 : a < b
  · exact h1
  · exact absurd (List.le_antisymm h (List.not_lt.1 h1)) hn
theorem keys_up {w : World} {b k : Nat} {D : Table} {ss : List (List UInt8)} (hM : MapAt w b k D) (hk : k ≤ 900) (hp : ss.Perm (strKeys D)) : KeysUp D ((ss.mergeSort leL).map keyN) ∧ ((ss.mergeSort leL).map keyN).length = ss.length := by
  have hsz := World.ownsMap.size_le hM
  have hle := strKeys_le hM Tryz.underlying9
  obtain ⟨es, rfl, hpw, _⟩ := World.ownsMap.entries hM Tryz.lawStr
  obtain ⟨es', he, hkeys⟩ := World.ownsMap.keysOf hM
  cases he
  have hstr : ∀ p ∈ es, ∃ x, p.1 = .string x := fun p hp' => by
    obtain ⟨key, hkey⟩ := hkeys p hp'
    obtain ⟨x, _, hx, _⟩ := Maps.keyOf_str Tryz.underlying9 hkey
    exact ⟨x, hx⟩
  have hnd : (strKeys (.map es : Table)).Nodup := by
    show (es.map fun p => strOf p.1).Nodup
    refine List.pairwise_map.2 (hpw.imp_of_mem fun {p q} hp' hq' hne e => hne ?_)
    obtain ⟨a, ha⟩ := hstr p hp'
    obtain ⟨c, hc⟩ := hstr q hq'
    rw [ha, hc] at e ⊢
    exact congrArg _ e
  have hmem : ∀ x, x ∈ strKeys (.map es : Table) ↔ has (.map es : Table) (.string x) = true := fun x => by
    rw [has_eq, List.any_eq_true]
    show x ∈ es.map (fun p => strOf p.1) ↔ _
    rw [List.mem_map]
    constructor
    · rintro ⟨p, hp', rfl⟩
      obtain ⟨a, ha⟩ := hstr p hp'
      refine ⟨p, hp', ?_⟩
      rw [ha]
      exact WideAt.sameKey_self (strL_key (keyN a))
    · rintro ⟨p, hp', hs⟩
      obtain ⟨a, ha⟩ := hstr p hp'
      refine ⟨p, hp', ?_⟩
      rw [ha] at hs ⊢
      by_cases e : a = x
      · rw [e]; rfl
      · have h1 : (Lit.string a).sameKey (.string x) = false := sameKey_ne (fun e2 => e (by cases e2; rfl))
        rw [h1] at hs
        cases hs
  have hperm := (List.mergeSort_perm ss leL).trans hp
  have tr : ∀ a b c : List UInt8, leL a b = true → leL b c = true → leL a c = true := fun a b c h1 h2 => by simp only [leL, decide_eq_true_eq] at *; exact List.le_trans h1 h2
  have tot : ∀ a b : List UInt8, (leL a b || leL b a) = true := fun a b => by simp only [leL, Bool.or_eq_true, decide_eq_true_eq]; exact List.le_total a b
  have hsort := List.pairwise_mergeSort tr tot ss
  have hnd2 : (ss.mergeSort leL).Nodup := hperm.nodup_iff.2 hnd
  refine ⟨⟨?_, fun n => ?_, ?_, fun n hn => ?_⟩, by rw [List.length_map, (List.mergeSort_perm ss leL).length_eq]⟩
  · rw [List.pairwise_map]
    refine (hsort.and hnd2).imp fun {a c} ⟨h1, h2⟩ => ?_
    unfold upB
    rw [keyN_list, keyN_list, bytesLess_eq]
    simp only [leL, decide_eq_true_eq] at h1 ⊢
    exact le_strict h1 h2
  · rw [List.mem_map]
    constructor
    · rintro ⟨s, hs, rfl⟩
      rw [keyN_lit]
      exact (hmem s).1 (hperm.mem_iff.1 hs)
    · intro h
      refine ⟨n.data.toList, hperm.mem_iff.2 ((hmem _).2 h), ?_⟩
      exact bytes_ext (by rw [keyN_list, ByteArray.toList_eq])
  · rw [List.length_map, hperm.length_eq]
    show (es.map fun p => strOf p.1).length ≤ 900
    rw [List.length_map]
    exact Nat.le_trans hsz hk
  · obtain ⟨s, hs, rfl⟩ := List.mem_map.1 hn
    have := hle s (hperm.mem_iff.1 hs)
    show s.toArray.size ≤ maxLen
    simpa using this
set_option maxHeartbeats 1000000 in
/-- The keys, in a row of their own. -/
theorem sortedPoly_any (b k : Nat) (D : Table) (w : World) (hM : MapAt w b k D) (hk : k ≤ 900) :
    Calls Tryz.prog 58 #[iterV w] (w.alloc (.cells #[.map (some b)] 78)) (fun e w' => ∃ q cap ns, e = .returned (.slice q ns.length cap) ∧ KeysUp D ns ∧ w'.ownsRow (w.heap.size + 1) 9 1 (.slice q ns.length cap) ns.length (ns.map Value.string) ∧ (w.alloc (.cells #[.map (some b)] 78)).grownBy w' none) := by
  have hlt := World.ownsMap.lt hM
  have hsz := World.ownsMap.size_le hM
  have hseq : SeqGives Fence.wide 2 Tryz.prog 74 #[.pointer (some ⟨w.heap.size, 0, none⟩)] encStr (fun ss => ss.Perm (strKeys D)) (Maps.size D) (w.alloc (.cells #[.map (some b)] 78)) :=
    AnyZ.keys_gives (ρ := Tryz.keysPoly_ren) { Tryz.keysPoly with } Fence.wide _ trivial rfl (by omega) w.heap.size b k D _ (by simp) (by simp) (by
      obtain ⟨es, clock, hb, hF, hs, hD⟩ := hM
      exact ⟨es, clock, (Below.heap_alloc _ _ b hlt).trans hb, hF, hs, hD⟩)
  have h := AnyZ.sorted_in Tryz.sortedStr Fence.wide 5 trivial trivial trivial trivial rfl (by omega) (sortsStr _) (enters_of Tryz.func73 (by kernel_rfl) rfl) 74 #[.pointer (some ⟨w.heap.size, 0, none⟩)] trivial (enters_of Tryz.func74 (by kernel_rfl) rfl) _ _ (by unfold maxLen; omega) (by omega) _ hseq
  refine (callsIn_wide.1 h).mono ?_
  rintro e w' ⟨v, ss, rfl, hS, hrow, hnil, hb⟩
  obtain ⟨h1, h2⟩ := keys_up hM hk hS
  have hrow' : w'.ownsRow (w.heap.size + 1) 9 1 v ((ss.mergeSort leL).map keyN).length (((ss.mergeSort leL).map keyN).map Value.string) := by
    rw [h2, List.map_map]
    have h3 := hrow
    simp only [World.size_alloc] at h3
    exact h3
  obtain ⟨q, cap, rfl⟩ := own_form hrow'
  exact ⟨q, cap, _, rfl, h1, hrow', hb.os, hb.tape, hb.output, hb.size, fun k hk _ => hb.block k hk⟩
/-- The term of a name. -/
def termX (X : ByteArray → Int) (n : ByteArray) : Option TermD := if n = ByteArray.empty then none else if X n = 0 then none else some (n, X n)
theorem terms_formX {D : Table} {X : ByteArray → Int} {ns : List ByteArray} (hT : TabIs D X) (hK : KeysUp D ns) (c : Int) : FormX X c (c, ns.filterMap (termX X)) := by
  refine ⟨rfl, ?_, fun n z => ?_⟩
  · unfold Ups
    rw [List.pairwise_filterMap]
    refine hK.up.imp fun {a b} hab x hx y hy => ?_
    unfold termX at hx hy
    split at hx
    · cases hx
    · split at hx
      · cases hx
      · split at hy
        · cases hy
        · split at hy
          · cases hy
          · cases hx
            cases hy
            exact hab
  · rw [List.mem_filterMap]
    constructor
    · rintro ⟨m, hm, h⟩
      unfold termX at h
      split at h
      · cases h
      · split at h
        · cases h
        · cases h
          exact ⟨by assumption, by assumption, rfl⟩
    · rintro ⟨h1, h2, h3⟩
      refine ⟨n, (hK.mem n).2 (tab_has hT (by rw [h3]; exact h2)), ?_⟩
      unfold termX
      rw [if_neg h1, if_neg (by rw [h3]; exact h2), h3]
/-- The form's box, the result's place, the terms so far. -/
structure TfSt (w0 wr : World) (P : Nat) (c : Int) (v : Value) (us : List TermD) : Prop where
  grown : w0.grownBy wr none
  from_ : w0.heap.size + 2 ≤ P
  res : wr.heap[w0.heap.size]? = some (.cells #[.int .i64 0, .slice none 0 0] 28 (0, 0))
  box : wr.heap[w0.heap.size + 1]? = some (.cells #[.int .i64 c, v] 28 (0, 0))
  row : TermRow wr P v us
theorem TfSt.again {w0 wr w' : World} {P P' : Nat} {c : Int} (h : TfSt w0 wr P c (.slice none 0 0) []) (hg : wr.grownBy w' none) (hP : P ≤ P') : TfSt w0 w' P' c (.slice none 0 0) [] := ⟨grownBy_trans h.grown hg, Nat.le_trans h.from_ hP, heap_keep h.res hg (by simp), heap_keep h.box hg (by simp), World.ownsRow_nil _ _ _ _⟩
theorem TfSt.start (w : World) (c : Int) : TfSt w ((w.alloc (.cells #[.int .i64 0, .slice none 0 0] 28)).alloc (.cells #[.int .i64 c, .slice none 0 0] 28)) (w.heap.size + 2) c (.slice none 0 0) [] := by
  have h := heap_alloc_new (w.alloc (.cells #[.int .i64 0, .slice none 0 0] 28)) (.cells #[.int .i64 c, .slice none 0 0] 28)
  exact ⟨grownBy_trans (World.grownBy_alloc _ _ _) (World.grownBy_alloc _ _ _), Nat.le_refl _, heap_keep (heap_alloc_new w _) (World.grownBy_alloc _ _ none) (by simp), by simpa using h, World.ownsRow_nil _ _ _ _⟩
theorem TfSt.push {w0 wr w7 w2 : World} {P : Nat} {c : Int} {v : Value} {us : List TermD} {o : Obj} {g cap : Nat} {t : TermD} (h : TfSt w0 wr P c v us) (hg : (wr.alloc o).grownBy w7 v.ownBlock) (h2 : w2.grownBy wr (some (w0.heap.size + 1))) (hP : w2.heap.size ≤ P)
    (row : w7.ownsRow P 54 2 (.slice (some ⟨g, 0, none⟩) (us.length + 1) cap) (us.length + 1) (us.flatMap termCells ++ termCells t)) :
    TfSt w0 (w7.setCell ⟨w0.heap.size + 1, 1, none⟩ (.slice (some ⟨g, 0, none⟩) (us.length + 1) cap)) P c (.slice (some ⟨g, 0, none⟩) (us.length + 1) cap) (us ++ [t]) ∧
    w2.grownBy (w7.setCell ⟨w0.heap.size + 1, 1, none⟩ (.slice (some ⟨g, 0, none⟩) (us.length + 1) cap)) (some (w0.heap.size + 1)) := by
  have k12 := grownBy_trans (World.grownBy_alloc wr o v.ownBlock) hg
  have hf := h.from_
  have hob : ∀ k, v.ownBlock = some k → P ≤ k := fun k hk => (World.ownsRow.lt h.row k hk).1
  have g2 := grown_set w7 (w0.heap.size + 1) 1 (.slice (some ⟨g, 0, none⟩) (us.length + 1) cap)
  refine ⟨⟨grown_own (grown_own h.grown k12 (fun k hk => by have := hob k hk; omega)) g2 (fun k hk => by cases hk; omega), hf, heap_keep (heap_keep h.res k12 (fun e => by have := hob _ e; omega)) g2 (by simp), ?_, ?_⟩, ?_⟩
  · show (w7.heap.modify (w0.heap.size + 1) _)[w0.heap.size + 1]? = _
    rw [Array.getElem?_modify, if_pos rfl, heap_keep h.box k12 (fun e => by have := hob _ e; omega)]
    simp
  · have hr := owns_under row g2 (fun k hk => by cases hk; omega)
    unfold TermRow
    simpa using hr
  · exact World.grownBy.andThen (World.grownBy.andThen h2 k12 (fun j hj => .inl (by have := hob j hj; omega))) g2 (fun j hj => .inr hj)
/-- A form of a table. -/
def TabFormed (X : ByteArray → Int) (w : World) (e : Ending) (w' : World) : Prop :=
  ∃ us p cap, e = .returned (.agg #[.int .i64 (X ByteArray.empty), .slice p us.length cap]) ∧ FormX X (X ByteArray.empty) (X ByteArray.empty, us) ∧ TermRow w' w.heap.size (.slice p us.length cap) us ∧ us.length ≤ 900 ∧ w.grownBy w' none
set_option maxRecDepth 100000 in
set_option maxHeartbeats 4000000 in
theorem tabForm_any (X : ByteArray → Int) (D : Table) (Bm k0 : Nat) (w : World) (hM : MapAt w Bm k0 D) (hT : TabIs D X) (hk0 : k0 ≤ 900) :
    Calls Tryz.prog 42 #[.map (some Bm)] w (TabFormed X w) := by
  have hBm := World.ownsMap.lt hM
  have HM := Lib.hid hM
  have HT := Lib.hid hT
  obtain ⟨j0, hj0, hy0, hy1, hy2⟩ := info_parts Tryz.infoTerm
  have HS := Lib.hid (TfSt.start w (X ByteArray.empty))
  have hlk : (Instr.lookup 78 (.map (some Bm)) (.string ⟨#[]⟩) false).run Tryz.prog (w.alloc (.cells #[.int .i64 0, .slice none 0 0] 28)) = .ok (.int .i64 (X ByteArray.empty)) (w.alloc (.cells #[.int .i64 0, .slice none 0 0] 28)) := tab_look (World.ownsMap.alloc hM _) hT (Nat.zero_le _)
  clear hM hT
  go_enter Tryz.func42, Tryz.ntmps42
  go_upto_region 2 with fail
  generalize hc : X ByteArray.empty = c at *
  have HC := Lib.hid hc
  clear hlk hc
  generalize (w.alloc (.cells #[.int .i64 0, .slice none 0 0] 28)).alloc (.cells #[.int .i64 c, .slice none 0 0] 28) = W1 at *
  have hW1 : w.heap.size + 2 ≤ W1.heap.size := (Array.getElem?_eq_some_iff.1 HS.out.box).1
  have HM1 : Hid (MapAt W1 Bm k0 D) := World.ownsMap.kept HM.out HS.out.grown (by simp)
  go_wp2_with (first
    | (go_at_call 59; go_must (refine (keysPoly_any Bm _).mono ?_; rintro e w' ⟨rfl, rfl⟩))
    | (go_at_call 58; go_must (refine (sortedPoly_any Bm k0 D _ HM1.out hk0).mono ?_; rintro e w2 ⟨q, qcap, ns, rfl, hku, hrow, hg2⟩; have hnl := hku.len; have HKu := Lib.hid hku; have HRow := Lib.hid hrow; have HG2 := Lib.hid (grownBy_trans (World.grownBy_alloc _ _ _) hg2); clear hku hrow hg2)))
  have HM2 : Hid (MapAt w2 Bm k0 D) := World.ownsMap.kept HM1.out HG2.out (by simp)
  have hsz2 : w.heap.size + 2 ≤ w2.heap.size := Nat.le_trans hW1 HG2.out.size
  have HS2 := Lib.hid (HS.out.again HG2.out (P' := w2.heap.size) hsz2)
  go_loopw [13] (fun i wr => ∃ (k : Nat) (v : Value) (us : List TermD), k ≤ ns.length ∧ i = .int .i64 k ∧ Hid (us = (ns.take k).filterMap (termX X)) ∧ us.length ≤ k ∧ Hid (TfSt w wr w2.heap.size c v us) ∧ Hid (w2.grownBy wr (some (w.heap.size + 1)))) (fun i _ => ns.length - (intOf i).toNat)
  case atStart => exact ⟨0, _, [], Nat.zero_le _, rfl, by show _ = _; simp, Nat.zero_le _, HS2.out, grownBy_refl _ _⟩
  case round =>
    obtain ⟨k, v, us, hk, rfl, HU, hul, HF, HG⟩ := hrel
    by_cases hlt : k < ns.length
    · have h0 := List.getElem?_eq_getElem hlt
      obtain ⟨g, cap', hv, hgl, hcell⟩ := own_cell (j := k) HRow.out (by rw [List.getElem?_map, h0]; rfl)
      obtain ⟨rfl, _, _⟩ := Value.slice.inj hv
      have hcell := HG.out.cell hcell (by simp; omega)
      have hsz := HKu.out.size _ (List.getElem_mem hlt)
      have HTk := Lib.hid (List.take_succ_eq_append_getElem hlt)
      generalize ns[k] = n at *
      have hlook := tab_look (World.ownsMap.kept HM2.out HG.out (by simp; omega)) HT.out hsz
      have hI1 : (k : Int) < (ns.length : Int) := by omega
      clear h0 hv
      by_cases hn : n = ByteArray.empty
      · have HX : Hid (termX X n = none) := by show _ = _; unfold termX; rw [if_pos hn]
        subst hn
        clear hlook
        go_wp2
        go_roundw
        case rel => exact ⟨k + 1, v, us, by omega, by go_num, by show _ = _; rw [HTk.out, List.filterMap_append, List.filterMap_cons, HX.out, List.filterMap_nil, List.append_nil, HU.out], by omega, HF.out, HG.out⟩
        case measure => simp [intOf]; omega
      · have hne : n.toList.isEmpty = false := by
          cases hl : n.toList with
          | nil => exact absurd (bytes_ext (a := n) (b := ByteArray.empty) (by rw [hl, ByteArray.toList_eq]; rfl)) hn
          | cons _ _ => rfl
        have HNe := Lib.hid hn
        clear hn
        by_cases hz : X n = 0
        · have HX : Hid (termX X n = none) := by show _ = _; unfold termX; rw [if_neg HNe.out, if_pos hz]
          rw [hz] at hlook
          clear hz
          go_wp2
          go_roundw
          case rel => exact ⟨k + 1, v, us, by omega, by go_num, by show _ = _; rw [HTk.out, List.filterMap_append, List.filterMap_cons, HX.out, List.filterMap_nil, List.append_nil, HU.out], by omega, HF.out, HG.out⟩
          case measure => simp [intOf]; omega
        · have HX : Hid (termX X n = some (n, X n)) := by show _ = _; unfold termX; rw [if_neg HNe.out, if_neg hz]
          have hz0 : (X n != 0) = true := by simpa using hz
          generalize X n = z at *
          clear hz
          obtain ⟨c1, c2, _⟩ := cell_of_two HF.out.box
          have hs2 := HF.out.grown.size
          have hb1 : w.heap.size + 1 < wr.heap.size := (Array.getElem?_eq_some_iff.1 HF.out.box).1
          obtain ⟨pv, vcap, rfl⟩ := own_form HF.out.row
          have HRw := Lib.hid HF.out.row
          go_wp2_with (first
            | (at_builtin; go_must (refine wpList_append_lies _ rfl _ _ 26 rfl w2.heap.size 54 j0 (.agg #[.string ByteArray.empty, .int .i64 0]) 2 24 Tryz.underlying26 hj0 hy0 hy1 hy2 rfl (by decide) _ us.length (us.flatMap termCells) rfl (World.ownsRow.alloc HRw.out _) ⟨wr.heap.size, 0, none⟩ 1 1 (termCells (n, z)) rfl rfl news_at (by simp [termCells, Value.oneCell']) (by decide) (by unfold maxLen; omega) (by omega) (by have := HG.out.size; simp; omega) (wr.heap.size + 1) (by simp) ?_; intro g' ncap w7 hown7 hgrow7 hat _; have O7 := Lib.hid hown7; have G7 := Lib.hid hgrow7; have hb7 := heap_keep HF.out.box (grownBy_trans (World.grownBy_alloc _ _ _) hgrow7) (fun e => by have := (World.ownsRow.lt HRw.out _ e).1; omega); obtain ⟨z0, z1, zf⟩ := cell_of_two hb7; clear hown7 hgrow7 hat hb7)))
          go_roundw
          case rel =>
            obtain ⟨hp, hq⟩ := HF.out.push (t := (n, z)) (g := g') (cap := ncap) G7.out HG.out (Nat.le_refl _) O7.out
            exact ⟨k + 1, by omega, by go_num, _, us ++ [(n, z)], by show _ = _; rw [HTk.out, List.filterMap_append, List.filterMap_cons, HX.out, List.filterMap_nil, HU.out], by simp; omega, hp, hq⟩
          case measure => simp [intOf]; omega
    · obtain rfl : k = ns.length := by omega
      have hU := HU.out
      rw [List.take_length] at hU
      have HU2 := Lib.hid hU
      obtain ⟨pv, vcap, rfl⟩ := own_form HF.out.row
      obtain ⟨c1, c2, _⟩ := cell_of_two HF.out.box
      obtain ⟨r0, r1, rf⟩ := cell_of_two HF.out.res
      clear hU
      go_wp2
      obtain ⟨f1, f2⟩ := two_set HF.out.res (.int .i64 c) (.slice pv us.length vcap)
      refine bodyPost_ret (results_cell_row rfl _ _ w.heap.size _ _ _ _ rfl f1 Tryz.underlying28 rfl Tryz.infoForm2) rfl ⟨us, pv, vcap, by rw [HC.out], ?_, ?_, by omega, grown_own HF.out.grown f2 (fun k hk => by cases hk; exact Nat.le_refl _)⟩
      · rw [HU2.out]
        exact terms_formX HT.out HKu.out _
      · exact owns_lower (owns_under HF.out.row f2 (fun k hk => by cases hk; omega)) (by omega)
end Go.Proofs.YtblpknkgjkbacaaGreatDoor
