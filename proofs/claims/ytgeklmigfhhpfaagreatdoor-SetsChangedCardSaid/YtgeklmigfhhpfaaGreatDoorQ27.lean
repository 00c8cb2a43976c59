/-
 A table as a form. A form in words. What stands in a form beside its number, in words.
-/
import Derived.Deep.AppendLies
import Derived.WalkSpells
import Derived.Deep.DeepMust
import Derived.Shelf.Strings.Prefix
import Derived.Shelf.Strings.OnBuilder
import Derived.Shelf.Strconv.Itoa3
import Derived.Shelf.Small.Wraps
import Derived.Deep.RegionHeld3
import Derived.Test.YtgeklmigfhhpfaaGreatDoorQ11
import Derived.Test.YtgeklmigfhhpfaaGreatDoorQ12
import Derived.Test.YtgeklmigfhhpfaaGreatDoorQ20
import Derived.Test.YtgeklmigfhhpfaaGreatDoorQ26
namespace Go.Proofs.YtgeklmigfhhpfaaGreatDoor
open Go.RowKit Go.Maps Go.WideMaps Go.Sort Go.Shelf
attribute [local go_sem ↓] Go.wp_at_zero Go.wp_at_succ
theorem sortsStr (m : Nat) : AnyZ.SortsIn Tryz.prog Tryz.sortedStr_ren Fence.wide m :=
 ⟨fun blk off cap ss W hH hb hs => callsIn_wide.2 (AnyM.slices_Sort_string Tryz.sortStr blk off cap ss W hH hb hs), fun p cap W => callsIn_wide.2 (AnyM.slices_Sort_string_none Tryz.sortStr p cap W)⟩
def iterV (W : World) : Value := .func (.func 143) #[] #[.pointer (some ⟨W.heap.size, 0, none⟩)]
theorem keysPoly_any (b : Nat) (W : World) : Calls Tryz.prog 113 #[.map (some b)] W (fun e w' => e = .returned (iterV W) ∧ w' = W.alloc (.cells #[.map (some b)] 110)) :=
 callsIn_wide.1 (AnyZ.keys_in Tryz.keysPoly Fence.wide 5 trivial rfl (some b) W)
def keyN (s : List UInt8) : ByteArray := ⟨s.toArray⟩
theorem keyN_list (s : List UInt8) : (keyN s).toList = s := by rw [ByteArray.toList_eq]; rfl
theorem keyN_lit (s : List UInt8) : strL (keyN s) = .string s := rfl
theorem keyN_inj {a b : List UInt8} (h : keyN a = keyN b) : a = b := by rw [← keyN_list a, ← keyN_list b, h]
abbrev leL (x y : List UInt8) : Bool := decide (x ≤ y)
structure KeysUp (D : Table) (ns : List ByteArray) : Prop where
 up : ns.Pairwise upB
 mem : ∀ n, n ∈ ns ↔ has D (strL n) = true
 len : ns.length ≤ 900
 size : ∀ n ∈ ns, n.size ≤ maxLen
theorem le_strict {a b : List UInt8} (h : a ≤ b) (hn : a ≠ b) : a < b := by
 by_cases h1 : a < b
 · exact h1
 · exact absurd (List.le_antisymm h (List.not_lt.1 h1)) hn
theorem keys_up {w : World} {b k : Nat} {D : Table} {ss : List (List UInt8)} (hM : MapAt w b k D) (hk : k ≤ 900) (hp : ss.Perm (strKeys D)) : KeysUp D ((ss.mergeSort leL).map keyN) ∧ ((ss.mergeSort leL).map keyN).length = ss.length := by
 have hsz := World.ownsMap.size_le hM
 have hle := strKeys_le hM Tryz.underlying9
 obtain ⟨es, rfl, hpw, _⟩ := World.ownsMap.entries hM Tryz.lawStr
 obtain ⟨es', he, hkeys⟩ := World.ownsMap.keysOf hM
 cases he
 have hstr : ∀ p ∈ es, ∃ x, p.1 = .string x := fun p hp' => by
  obtain ⟨key, hkey⟩ := hkeys p hp'
  obtain ⟨x, _, hx, _⟩ := Maps.keyOf_str Tryz.underlying9 hkey
  exact ⟨x, hx⟩
 have hnd : (strKeys (.map es : Table)).Nodup := by
  show (es.map fun p => strOf p.1).Nodup
  refine List.pairwise_map.2 (hpw.imp_of_mem fun {p q} hp' hq' hne e => hne ?_)
  obtain ⟨a, ha⟩ := hstr p hp'
  obtain ⟨c, hc⟩ := hstr q hq'
  rw [ha, hc] at e ⊢
  exact congrArg _ e
 have hmem : ∀ x, x ∈ strKeys (.map es : Table) ↔ has (.map es : Table) (.string x) = true := fun x => by
  rw [has_eq, List.any_eq_true]
  show x ∈ es.map (fun p => strOf p.1) ↔ _
  rw [List.mem_map]
  constructor
  · rintro ⟨p, hp', rfl⟩
    obtain ⟨a, ha⟩ := hstr p hp'
    refine ⟨p, hp', ?_⟩
    rw [ha]
    exact WideAt.sameKey_self (strL_key (keyN a))
  · rintro ⟨p, hp', hs⟩
    obtain ⟨a, ha⟩ := hstr p hp'
    refine ⟨p, hp', ?_⟩
    rw [ha] at hs ⊢
    by_cases e : a = x
    · rw [e]; rfl
    · have h1 : (Lit.string a).sameKey (.string x) = false := sameKey_ne (fun e2 => e (by cases e2; rfl))
      rw [h1] at hs
      cases hs
 have hperm := (List.mergeSort_perm ss leL).trans hp
 have tr : ∀ a b c : List UInt8, leL a b = true → leL b c = true → leL a c = true := fun a b c h1 h2 => by simp only [leL, decide_eq_true_eq] at *; exact List.le_trans h1 h2
 have tot : ∀ a b : List UInt8, (leL a b || leL b a) = true := fun a b => by simp only [leL, Bool.or_eq_true, decide_eq_true_eq]; exact List.le_total a b
 have hsort := List.pairwise_mergeSort tr tot ss
 have hnd2 : (ss.mergeSort leL).Nodup := hperm.nodup_iff.2 hnd
 refine ⟨⟨?_, fun n => ?_, ?_, fun n hn => ?_⟩, by rw [List.length_map, (List.mergeSort_perm ss leL).length_eq]⟩
 · rw [List.pairwise_map]
   refine (hsort.and hnd2).imp fun {a c} ⟨h1, h2⟩ => ?_
   unfold upB
   rw [keyN_list, keyN_list, bytesLess_eq]
   simp only [leL, decide_eq_true_eq] at h1 ⊢
   exact le_strict h1 h2
 · rw [List.mem_map]
   constructor
   · rintro ⟨s, hs, rfl⟩
     rw [keyN_lit]
     exact (hmem s).1 (hperm.mem_iff.1 hs)
   · intro h
     refine ⟨n.data.toList, hperm.mem_iff.2 ((hmem _).2 h), ?_⟩
     exact bytes_ext (by rw [keyN_list, ByteArray.toList_eq])
 · rw [List.length_map, hperm.length_eq]
   show (es.map fun p => strOf p.1).length ≤ 900
   rw [List.length_map]
   exact Nat.le_trans hsz hk
 · obtain ⟨s, hs, rfl⟩ := List.mem_map.1 hn
   have := hle s (hperm.mem_iff.1 hs)
   show s.toArray.size ≤ maxLen
   simpa using this
set_option maxHeartbeats 1000000 in
theorem sortedPoly_any (b k : Nat) (D : Table) (w : World) (hM : MapAt w b k D) (hk : k ≤ 900) :
  Calls Tryz.prog 112 #[iterV w] (w.alloc (.cells #[.map (some b)] 110)) (fun e w' => ∃ q cap ns, e = .returned (.slice q ns.length cap) ∧ KeysUp D ns ∧ w'.ownsRow (w.heap.size + 1) 9 1 (.slice q ns.length cap) ns.length (ns.map Value.string) ∧ (w.alloc (.cells #[.map (some b)] 110)).grownBy w' none) := by
 have hlt := World.ownsMap.lt hM
 have hsz := World.ownsMap.size_le hM
 have hseq : SeqGives Fence.wide 2 Tryz.prog 143 #[.pointer (some ⟨w.heap.size, 0, none⟩)] encStr (fun ss => ss.Perm (strKeys D)) (Maps.size D) (w.alloc (.cells #[.map (some b)] 110)) :=
  AnyZ.keys_gives (ρ := Tryz.keysPoly_ren) { Tryz.keysPoly with } Fence.wide _ trivial rfl (by omega) w.heap.size b k D _ (by simp) (by simp) (by
   obtain ⟨es, clock, hb, hF, hs, hD⟩ := hM
   exact ⟨es, clock, (Below.heap_alloc _ _ b hlt).trans hb, hF, hs, hD⟩)
 have h := AnyZ.sorted_in Tryz.sortedStr Fence.wide 5 trivial trivial trivial trivial rfl (by omega) (sortsStr _) (enters_of Tryz.func142 (by kernel_rfl) rfl) 143 #[.pointer (some ⟨w.heap.size, 0, none⟩)] trivial (enters_of Tryz.func143 (by kernel_rfl) rfl) _ _ (by unfold maxLen; omega) (by omega) _ hseq
 refine (callsIn_wide.1 h).mono ?_
 rintro e w' ⟨v, ss, rfl, hS, hrow, hnil, hb⟩
 obtain ⟨h1, h2⟩ := keys_up hM hk hS
 have hrow' : w'.ownsRow (w.heap.size + 1) 9 1 v ((ss.mergeSort leL).map keyN).length (((ss.mergeSort leL).map keyN).map Value.string) := by
  rw [h2, List.map_map]
  have h3 := hrow
  simp only [World.size_alloc] at h3
  exact h3
 obtain ⟨q, cap, rfl⟩ := own_form hrow'
 exact ⟨q, cap, _, rfl, h1, hrow', hb.os, hb.tape, hb.output, hb.size, fun k hk _ => hb.block k hk⟩
def termX (X : ByteArray → Int) (n : ByteArray) : Option TermD := if n = ByteArray.empty then none else if X n = 0 then none else some (n, X n)
theorem terms_formX {D : Table} {X : ByteArray → Int} {ns : List ByteArray} (hT : TabIs D X) (hK : KeysUp D ns) (c : Int) : FormX X c (c, ns.filterMap (termX X)) := by
 refine ⟨rfl, ?_, fun n z => ?_⟩
 · unfold Ups
   rw [List.pairwise_filterMap]
   refine hK.up.imp fun {a b} hab x hx y hy => ?_
   unfold termX at hx hy
   split at hx
   · cases hx
   · split at hx
     · cases hx
     · split at hy
       · cases hy
       · split at hy
         · cases hy
         · cases hx
           cases hy
           exact hab
 · rw [List.mem_filterMap]
   constructor
   · rintro ⟨m, hm, h⟩
     unfold termX at h
     split at h
     · cases h
     · split at h
       · cases h
       · cases h
         exact ⟨by assumption, by assumption, rfl⟩
   · rintro ⟨h1, h2, h3⟩
     refine ⟨n, (hK.mem n).2 (tab_has hT (by rw [h3]; exact h2)), ?_⟩
     unfold termX
     rw [if_neg h1, if_neg (by rw [h3]; exact h2), h3]
structure TfSt (w0 wr : World) (P : Nat) (c : Int) (v : Value) (us : List TermD) : Prop where
 grown : w0.grownBy wr none
 from_ : w0.heap.size + 2 ≤ P
 res : wr.heap[w0.heap.size]? = some (.cells #[.int .i64 0, .slice none 0 0] 35 (0, 0))
 box : wr.heap[w0.heap.size + 1]? = some (.cells #[.int .i64 c, v] 35 (0, 0))
 row : TermRow wr P v us
theorem TfSt.again {w0 wr w' : World} {P P' : Nat} {c : Int} (h : TfSt w0 wr P c (.slice none 0 0) []) (hg : wr.grownBy w' none) (hP : P ≤ P') : TfSt w0 w' P' c (.slice none 0 0) [] := ⟨gT h.grown hg, Nat.le_trans h.from_ hP, kH h.res hg (by simp), kH h.box hg (by simp), World.ownsRow_nil _ _ _ _⟩
theorem TfSt.start (w : World) (c : Int) : TfSt w ((w.alloc (.cells #[.int .i64 0, .slice none 0 0] 35)).alloc (.cells #[.int .i64 c, .slice none 0 0] 35)) (w.heap.size + 2) c (.slice none 0 0) [] := by
 have h := heap_alloc_new (w.alloc (.cells #[.int .i64 0, .slice none 0 0] 35)) (.cells #[.int .i64 c, .slice none 0 0] 35)
 exact ⟨gT (gA _ _ _) (gA _ _ _), Nat.le_refl _, kH (heap_alloc_new w _) (gA _ _ none) (by simp), by simpa using h, World.ownsRow_nil _ _ _ _⟩
theorem TfSt.push {w0 wr w7 w2 : World} {P : Nat} {c : Int} {v : Value} {us : List TermD} {o : Obj} {g cap : Nat} {t : TermD} (h : TfSt w0 wr P c v us) (hg : (wr.alloc o).grownBy w7 v.ownBlock) (h2 : w2.grownBy wr (some (w0.heap.size + 1))) (hP : w2.heap.size ≤ P)
  (row : w7.ownsRow P 65 2 (.slice (some ⟨g, 0, none⟩) (us.length + 1) cap) (us.length + 1) (us.flatMap termCells ++ termCells t)) :
  TfSt w0 (w7.setCell ⟨w0.heap.size + 1, 1, none⟩ (.slice (some ⟨g, 0, none⟩) (us.length + 1) cap)) P c (.slice (some ⟨g, 0, none⟩) (us.length + 1) cap) (us ++ [t]) ∧
  w2.grownBy (w7.setCell ⟨w0.heap.size + 1, 1, none⟩ (.slice (some ⟨g, 0, none⟩) (us.length + 1) cap)) (some (w0.heap.size + 1)) := by
 have k12 := gT (gA wr o v.ownBlock) hg
 have hf := h.from_
 have hob : ∀ k, v.ownBlock = some k → P ≤ k := fun k hk => (World.ownsRow.lt h.row k hk).1
 have g2 := gS w7 (w0.heap.size + 1) 1 (.slice (some ⟨g, 0, none⟩) (us.length + 1) cap)
 refine ⟨⟨gO (gO h.grown k12 (fun k hk => by have := hob k hk; omega)) g2 (fun k hk => by cases hk; omega), hf, kH (kH h.res k12 (fun e => by have := hob _ e; omega)) g2 (by simp), ?_, ?_⟩, ?_⟩
 · show (w7.heap.modify (w0.heap.size + 1) _)[w0.heap.size + 1]? = _
   rw [Array.getElem?_modify, if_pos rfl, kH h.box k12 (fun e => by have := hob _ e; omega)]
   simp
 · have hr := owns_under row g2 (fun k hk => by cases hk; omega)
   unfold TermRow
   simpa using hr
 · exact World.grownBy.andThen (World.grownBy.andThen h2 k12 (fun j hj => .inl (by have := hob j hj; omega))) g2 (fun j hj => .inr hj)
def TabFormed (X : ByteArray → Int) (w : World) (e : Ending) (w' : World) : Prop :=
 ∃ us p cap, e = .returned (.agg #[.int .i64 (X ByteArray.empty), .slice p us.length cap]) ∧ FormX X (X ByteArray.empty) (X ByteArray.empty, us) ∧ TermRow w' w.heap.size (.slice p us.length cap) us ∧ us.length ≤ 900 ∧ w.grownBy w' none
set_option maxRecDepth 100000 in
set_option maxHeartbeats 4000000 in
theorem tabForm_any (X : ByteArray → Int) (D : Table) (Bm k0 : Nat) (w : World) (hM : MapAt w Bm k0 D) (hT : TabIs D X) (hk0 : k0 ≤ 900) :
  Calls Tryz.prog 67 #[.map (some Bm)] w (TabFormed X w) := by
 have hBm := World.ownsMap.lt hM
 have HM := uH hM
 have HT := uH hT
 obtain ⟨j0, hj0, hy0, hy1, hy2⟩ := info_parts Tryz.infoTerm
 have HS := uH (TfSt.start w (X ByteArray.empty))
 have hlk : (Instr.lookup 110 (.map (some Bm)) (.string ⟨#[]⟩) false).run Tryz.prog (w.alloc (.cells #[.int .i64 0, .slice none 0 0] 35)) = .ok (.int .i64 (X ByteArray.empty)) (w.alloc (.cells #[.int .i64 0, .slice none 0 0] 35)) := tab_look (World.ownsMap.alloc hM _) hT (Nat.zero_le _)
 clear hM hT
 go_enter Tryz.func67, Tryz.ntmps67
 go_upto_region 2 with fail
 generalize hc : X ByteArray.empty = c at *
 have HC := uH hc
 clear hlk hc
 generalize (w.alloc (.cells #[.int .i64 0, .slice none 0 0] 35)).alloc (.cells #[.int .i64 c, .slice none 0 0] 35) = W1 at *
 have hW1 : w.heap.size + 2 ≤ W1.heap.size := (Array.getElem?_eq_some_iff.1 HS.out.box).1
 have HM1 : Hid (MapAt W1 Bm k0 D) := World.ownsMap.kept HM.out HS.out.grown (by simp)
 go_wp2_with (first
  | (go_at_call 113; go_must (refine (keysPoly_any Bm _).mono ?_; rintro e w' ⟨rfl, rfl⟩))
  | (go_at_call 112; go_must (refine (sortedPoly_any Bm k0 D _ HM1.out hk0).mono ?_; rintro e w2 ⟨q, qcap, ns, rfl, hku, hrow, hg2⟩; have hnl := hku.len; have HKu := uH hku; have HRow := uH hrow; have HG2 := uH (gT (gA _ _ _) hg2); clear hku hrow hg2)))
 have HM2 : Hid (MapAt w2 Bm k0 D) := World.ownsMap.kept HM1.out HG2.out (by simp)
 have hsz2 : w.heap.size + 2 ≤ w2.heap.size := Nat.le_trans hW1 HG2.out.size
 have HS2 := uH (HS.out.again HG2.out (P' := w2.heap.size) hsz2)
 go_loopw [13] (fun i wr => ∃ (k : Nat) (v : Value) (us : List TermD), k ≤ ns.length ∧ i = .int .i64 k ∧ Hid (us = (ns.take k).filterMap (termX X)) ∧ us.length ≤ k ∧ Hid (TfSt w wr w2.heap.size c v us) ∧ Hid (w2.grownBy wr (some (w.heap.size + 1)))) (fun i _ => ns.length - (intOf i).toNat)
 case atStart => exact ⟨0, _, [], Nat.zero_le _, rfl, by show _ = _; simp, Nat.zero_le _, HS2.out, gR _ _⟩
 case round =>
  obtain ⟨k, v, us, hk, rfl, HU, hul, HF, HG⟩ := hrel
  by_cases hlt : k < ns.length
  · have h0 := List.getElem?_eq_getElem hlt
    obtain ⟨g, cap', hv, hgl, hcell⟩ := own_cell (j := k) HRow.out (by rw [List.getElem?_map, h0]; rfl)
    obtain ⟨rfl, _, _⟩ := Value.slice.inj hv
    have hcell := HG.out.cell hcell (by simp; omega)
    have hsz := HKu.out.size _ (List.getElem_mem hlt)
    have HTk := uH (List.take_succ_eq_append_getElem hlt)
    generalize ns[k] = n at *
    have hlook := tab_look (World.ownsMap.kept HM2.out HG.out (by simp; omega)) HT.out hsz
    have hI1 : (k : Int) < (ns.length : Int) := by omega
    clear h0 hv
    by_cases hn : n = ByteArray.empty
    · have HX : Hid (termX X n = none) := by show _ = _; unfold termX; rw [if_pos hn]
      subst hn
      clear hlook
      go_wp2
      go_roundw
      case rel => exact ⟨k + 1, v, us, by omega, by go_num, by show _ = _; rw [HTk.out, List.filterMap_append, List.filterMap_cons, HX.out, List.filterMap_nil, List.append_nil, HU.out], by omega, HF.out, HG.out⟩
      case measure => simp [intOf]; omega
    · have hne : n.toList.isEmpty = false := by
       cases hl : n.toList with
       | nil => exact absurd (bytes_ext (a := n) (b := ByteArray.empty) (by rw [hl, ByteArray.toList_eq]; rfl)) hn
       | cons _ _ => rfl
      have HNe := uH hn
      clear hn
      by_cases hz : X n = 0
      · have HX : Hid (termX X n = none) := by show _ = _; unfold termX; rw [if_neg HNe.out, if_pos hz]
        rw [hz] at hlook
        clear hz
        go_wp2
        go_roundw
        case rel => exact ⟨k + 1, v, us, by omega, by go_num, by show _ = _; rw [HTk.out, List.filterMap_append, List.filterMap_cons, HX.out, List.filterMap_nil, List.append_nil, HU.out], by omega, HF.out, HG.out⟩
        case measure => simp [intOf]; omega
      · have HX : Hid (termX X n = some (n, X n)) := by show _ = _; unfold termX; rw [if_neg HNe.out, if_neg hz]
        have hz0 : (X n != 0) = true := by simpa using hz
        generalize X n = z at *
        clear hz
        obtain ⟨c1, c2, _⟩ := cO HF.out.box
        have hs2 := HF.out.grown.size
        have hb1 : w.heap.size + 1 < wr.heap.size := (Array.getElem?_eq_some_iff.1 HF.out.box).1
        obtain ⟨pv, vcap, rfl⟩ := own_form HF.out.row
        have HRw := uH HF.out.row
        go_wp2_with (first
         | (at_builtin; go_must (refine wpList_append_lies _ rfl _ _ 33 rfl w2.heap.size 65 j0 (.agg #[.string ByteArray.empty, .int .i64 0]) 2 24 Tryz.underlying33 hj0 hy0 hy1 hy2 rfl (by decide) _ us.length (us.flatMap termCells) rfl (World.ownsRow.alloc HRw.out _) ⟨wr.heap.size, 0, none⟩ 1 1 (termCells (n, z)) rfl rfl news_at (by simp [termCells, Value.oneCell']) (by decide) (by unfold maxLen; omega) (by omega) (by have := HG.out.size; simp; omega) (wr.heap.size + 1) (by simp) ?_; intro g' ncap w7 hown7 hgrow7 hat _; have O7 := uH hown7; have G7 := uH hgrow7; have hb7 := kH HF.out.box (gT (gA _ _ _) hgrow7) (fun e => by have := (World.ownsRow.lt HRw.out _ e).1; omega); obtain ⟨z0, z1, zf⟩ := cO hb7; clear hown7 hgrow7 hat hb7)))
        go_roundw
        case rel =>
         obtain ⟨hp, hq⟩ := HF.out.push (t := (n, z)) (g := g') (cap := ncap) G7.out HG.out (Nat.le_refl _) O7.out
         exact ⟨k + 1, by omega, by go_num, _, us ++ [(n, z)], by show _ = _; rw [HTk.out, List.filterMap_append, List.filterMap_cons, HX.out, List.filterMap_nil, HU.out], by simp; omega, hp, hq⟩
        case measure => simp [intOf]; omega
  · obtain rfl : k = ns.length := by omega
    have hU := HU.out
    rw [List.take_length] at hU
    have HU2 := uH hU
    obtain ⟨pv, vcap, rfl⟩ := own_form HF.out.row
    obtain ⟨c1, c2, _⟩ := cO HF.out.box
    obtain ⟨r0, r1, rf⟩ := cO HF.out.res
    clear hU
    go_wp2
    obtain ⟨f1, f2⟩ := two_set HF.out.res (.int .i64 c) (.slice pv us.length vcap)
    refine bodyPost_ret (results_cell_row rfl _ _ w.heap.size _ _ _ _ rfl f1 Tryz.underlying35 rfl Tryz.infoForm2) rfl ⟨us, pv, vcap, by rw [HC.out], ?_, ?_, by omega, gO HF.out.grown f2 (fun k hk => by cases hk; exact Nat.le_refl _)⟩
    · rw [HU2.out]
      exact terms_formX HT.out HKu.out _
    · exact owns_lower (owns_under HF.out.row f2 (fun k hk => by cases hk; omega)) (by omega)
end Go.Proofs.YtgeklmigfhhpfaaGreatDoor
namespace Go.Proofs.YtgeklmigfhhpfaaGreatDoor
open Go.RowKit Go.Shelf
attribute [local go_sem ↓] Go.wp_at_zero Go.wp_at_succ
theorem Tryz.extra : Builder.Extra Tryz.prog Tryz.join_ren where
 sizeBuilder := by kernel_rfl
 liesBuilder := by kernel_rfl
 t5 := Tryz.itoa.t5
 a5 := Tryz.itoa.a5
 z5 := Tryz.itoa.z5
 v5 := Tryz.itoa.v5
 infoByte := by kernel_rfl
 cellsByte := by kernel_rfl
 sizeByte := by kernel_rfl
 neB5 := by decide
theorem grown_grow (w : World) (k : Nat) (os : Array Obj) : w.grownBy (Go.Sort.grow (w.drewN k) os) none := by
 refine ⟨?_, ?_, ?_, ?_, fun i hi _ => ?_⟩ <;> simp [Go.Sort.grow, World.drewN]
 rw [Array.getElem?_append_left hi]
theorem below_grown {w w' : World} (hb : Below w.heap.size w w') : w.grownBy w' none := ⟨hb.os, hb.tape, hb.output, hb.size, fun k hk _ => hb.block k hk⟩
def PowTab (w : World) : Prop := Lib.TabIs Tryz.prog w "internal/strconv.uint64pow10" .u64 Lib.pow10Tab
theorem keyN_append (a b : List UInt8) : keyN a ++ keyN b = keyN (a ++ b) := by
 refine bytes_ext ?_
 rw [keyN_list, ByteArray.toList_eq, ByteArray.data_append, Array.toList_append]
 rfl
theorem keyN_self (s : ByteArray) : keyN s.toList = s := bytes_ext (keyN_list _)
theorem sign_any (z : Int) (w : World) : Calls Tryz.prog 145 #[.int .i64 z] w (Gives (.string (keyN (signL z))) w) := by
 by_cases h : z < 0
 · have e : keyN (signL z) = ⟨#[32, 45, 32]⟩ := by unfold signL; rw [if_pos h]; rfl
   rw [e]
   go_enter Tryz.func145, Tryz.ntmps145
   go_wp2
   go_ret
   exact ⟨rfl, gR _ _⟩
 · have e : keyN (signL z) = ⟨#[32, 43, 32]⟩ := by unfold signL; rw [if_neg h]; rfl
   rw [e]
   go_enter Tryz.func145, Tryz.ntmps145
   go_wp2
   go_ret
   exact ⟨rfl, gR _ _⟩
theorem number_any (m : Nat) (w : World) (hm : m ≤ 1000000000000) (ht : PowTab w) : Calls Tryz.prog 144 #[.int .i64 m] w (Gives (.string (keyN (Lib.decDigits m))) w) := by
 have hi : Lib.itoa (m : Int) = Lib.decDigits m := by
  unfold Lib.itoa
  rw [if_neg (by omega)]
  simp
 go_enter Tryz.func144, Tryz.ntmps144
 go_wp2_with (go_at_call 168; go_must (refine (Any.strconv_Itoa Tryz.itoa (m : Int) (by omega) (by omega) _ ht).mono ?_; rintro e w' ⟨rfl, k, os, rfl⟩; rw [hi]))
 go_ret
 exact ⟨rfl, grown_grow _ _ _⟩
theorem part_one {n : ByteArray} {z : Int} (h : z.natAbs = 1) : keyN (signL z) ++ n = keyN (partL (n, z)) := by
 rw [← keyN_self n, keyN_append, keyN_self]
 unfold partL bodyL
 rw [if_pos h]
theorem part_more {n : ByteArray} {z : Int} (h : z.natAbs ≠ 1) : keyN (signL z) ++ (keyN (Lib.decDigits z.natAbs) ++ ⟨#[42]⟩ ++ n) = keyN (partL (n, z)) := by
 have e : (⟨#[42]⟩ : ByteArray) = keyN [42] := rfl
 rw [e, ← keyN_self n, keyN_append, keyN_append, keyN_append, keyN_self]
 unfold partL bodyL
 rw [if_neg h]
 simp
theorem PowTab.kept {w w' : World} (h : PowTab w) (hg : w.grownBy w' none) : PowTab w' := by
 unfold PowTab Lib.TabIs World.var? at *
 cases hn : Tryz.prog.globalNamed "internal/strconv.uint64pow10" with
 | none => rw [hn] at h; simp at h
 | some g =>
   rw [hn] at h
   simp only [Option.bind_some] at h ⊢
   cases hc : w.heap[g]? with
   | none => rw [hc] at h; simp at h
   | some o =>
     rw [kH hc hg (by simp)]
     rw [hc] at h
     exact h
theorem dec_length : ∀ u : Nat, (Lib.decDigits u).length ≤ u + 1 := by
 intro u
 induction u using Nat.strongRecOn with
 | ind u ih =>
   rw [Lib.decDigits]
   split
   · simp
   · have := ih (u / 10) (by omega)
     simp
     omega
theorem part_length {t : TermD} (h : t.1.size ≤ 100 ∧ t.2.natAbs ≤ 1000000000) : (partL t).length ≤ 1000000200 := by
 have h1 : (signL t.2).length = 3 := by unfold signL; split <;> rfl
 have h2 := dec_length t.2.natAbs
 have h3 : t.1.toList.length = t.1.size := by rw [ByteArray.toList_eq, Array.length_toList]; rfl
 unfold partL bodyL
 rw [List.length_append, h1]
 split
 · omega
 · rw [List.length_append, List.length_cons]
   omega
theorem flat_length_le {α β : Type} {f : α → List β} {m : Nat} : ∀ {l : List α}, (∀ a ∈ l, (f a).length ≤ m) → (l.flatMap f).length ≤ l.length * m
 | [], _ => by simp
 | a :: r, h => by
   have h1 := h a (by simp)
   have h2 := flat_length_le (l := r) fun x hx => h x (by simp [hx])
   simp only [List.flatMap_cons, List.length_append, List.length_cons, Nat.succ_mul]
   omega
theorem join_flat (xs : List (List UInt8)) : Lib.join xs [] = xs.flatten := by
 cases xs with
 | nil => rfl
 | cons x r =>
   rw [Lib.join_cons]
   simp [Lib.joinTail]
def partsOf (ts : List TermD) : List ByteArray := if ts = [] then [keyN [32, 43, 32, 48]] else ts.map fun t => keyN (partL t)
theorem parts_join (ts : List TermD) : Lib.join ((partsOf ts).map (·.data.toList)) (ByteArray.empty).data.toList = outL ts := by
 have e : (ByteArray.empty).data.toList = [] := rfl
 rw [e, join_flat]
 unfold partsOf outL
 by_cases h : ts = []
 · rw [if_pos h, if_pos h]
   rfl
 · rw [if_neg h, if_neg h, List.map_map, List.flatMap_def]
   rfl
theorem words_cut {o : List UInt8} (h : [32, 43, 32].isPrefixOf o = true) : wordsL o = o.drop 3 := by unfold wordsL; rw [if_pos h]
theorem words_trim {o : List UInt8} (h : [32, 43, 32].isPrefixOf o = false) : keyN (wordsL o) = ⟨#[45]⟩ ++ keyN (Lib.trimPrefix o [32, 45, 32]) := by
 have e : (⟨#[45]⟩ : ByteArray) = keyN [45] := rfl
 rw [e, keyN_append]
 unfold wordsL Lib.trimPrefix Lib.hasPrefix
 rw [if_neg (by rw [h]; simp)]
 rfl
theorem out_length {ts : List TermD} (hl : ts.length ≤ 900) (hg : ∀ t ∈ ts, t.1.size ≤ 100 ∧ t.2.natAbs ≤ 1000000000) : (outL ts).length ≤ 900000180000 := by
 unfold outL
 split
 · decide
 · have h1 := flat_length_le (f := partL) (m := 1000000200) (l := ts) (fun t ht => part_length (hg t ht))
   have h2 := Nat.mul_le_mul_right 1000000200 hl
   omega
theorem parts_length (ts : List TermD) : (partsOf ts).length = if ts = [] then 1 else ts.length := by
 unfold partsOf
 split <;> simp
theorem join_any (ts : List TermD) (B g cap m : Nat) (W : World) (hm : (partsOf ts).length = m) (hrow : W.ownsRow B 9 1 (.slice (some ⟨g, 0, none⟩) m cap) m ((partsOf ts).map Value.string)) (hl : ts.length ≤ 900) (hg : ∀ t ∈ ts, t.1.size ≤ 100 ∧ t.2.natAbs ≤ 1000000000) :
  Calls Tryz.prog 146 #[.slice (some ⟨g, 0, none⟩) m cap, .string ⟨#[]⟩] W (Gives (.string (keyN (outL ts))) W) := by
 subst hm
 obtain ⟨f1, f2, f3, _, cur, f5, _⟩ := own_free hrow
 have hlen : (Lib.join ((partsOf ts).map (·.data.toList)) (ByteArray.mk #[]).data.toList).length ≤ 140737488355328 := by
  have := parts_join ts
  have e : (ByteArray.mk #[]).data.toList = (ByteArray.empty).data.toList := rfl
  rw [e, this]
  have := out_length hl hg
  omega
 have hN : (partsOf ts).length ≤ 140737488355328 := by rw [parts_length]; split <;> omega
 refine (Any.strings_Join Tryz.join Tryz.extra g 0 cap (partsOf ts) (ByteArray.mk #[]) W (fun j x hj => ?_) (Array.getElem?_eq_some_iff.1 f5).1 hN f1 hlen).mono ?_
 · obtain ⟨g', c', hv, _, hc⟩ := own_cell (j := j) hrow (by rw [List.getElem?_map, hj]; rfl)
   obtain ⟨e, _, _⟩ := Value.slice.inj hv
   simp only [Option.some.injEq, Addr.mk.injEq, and_true] at e
   subst e
   rw [Nat.zero_add]
   exact hc
 · rintro e w' ⟨rfl, hb⟩
   refine ⟨?_, below_grown hb⟩
   have e : (ByteArray.mk #[]).data.toList = (ByteArray.empty).data.toList := rfl
   rw [e, parts_join]
   rfl
theorem cutPrefix_any (o : List UInt8) (W : World) : Calls Tryz.prog 147 #[.string (keyN o), .string ⟨#[32, 43, 32]⟩] W (fun e w' => e = .returned (.tuple #[.string (keyN (Lib.trimPrefix o [32, 43, 32])), .bool ([32, 43, 32].isPrefixOf o)]) ∧ w' = W) :=
 (Any.strings_CutPrefix Tryz.cutPrefix (keyN o) ⟨#[32, 43, 32]⟩ W).mono fun _ _ h => h
theorem trimPrefix_any (o : List UInt8) (W : World) : Calls Tryz.prog 148 #[.string (keyN o), .string ⟨#[32, 45, 32]⟩] W (fun e w' => e = .returned (.string (keyN (Lib.trimPrefix o [32, 45, 32]))) ∧ w' = W) :=
 (Any.strings_TrimPrefix Tryz.trimPrefix (keyN o) ⟨#[32, 45, 32]⟩ W).mono fun _ _ h => h
theorem trim_size (o p : List UInt8) : (keyN (Lib.trimPrefix o p)).size ≤ o.length := by
 show (Lib.trimPrefix o p).toArray.size ≤ _
 rw [List.size_toArray]
 unfold Lib.trimPrefix
 split
 · simp
 · exact Nat.le_refl _
theorem joinO_any {ts : List TermD} {o : List UInt8} (ho : outL ts = o) (B g cap m : Nat) (W : World) (hm : (partsOf ts).length = m) (hrow : W.ownsRow B 9 1 (.slice (some ⟨g, 0, none⟩) m cap) m ((partsOf ts).map Value.string)) (hl : ts.length ≤ 900) (hg : ∀ t ∈ ts, t.1.size ≤ 100 ∧ t.2.natAbs ≤ 1000000000) :
  Calls Tryz.prog 146 #[.slice (some ⟨g, 0, none⟩) m cap, .string ⟨#[]⟩] W (Gives (.string (keyN o)) W) := by
 subst ho
 exact join_any ts B g cap m W hm hrow hl hg
theorem sign_size (z : Int) : (keyN (signL z)).size = 3 := by unfold signL; split <;> rfl
set_option maxRecDepth 100000 in
set_option maxHeartbeats 4000000 in
theorem words_any (ts : List TermD) (tv : Value) (w : World) (hp : PowTab w) (ht : TermsAt w tv ts) (hl : ts.length ≤ 900) (hg : ∀ t ∈ ts, t.1.size ≤ 100 ∧ t.2.natAbs ≤ 1000000000) :
  Calls Tryz.prog 114 #[.agg #[.int .i64 0, tv]] w (Gives (.string (keyN (wordsL (outL ts)))) w) := by
 obtain ⟨p, cap, rfl, htl, htc⟩ := id ht
 have HT := uH htc
 have HG := uH hg
 have HP := uH hp
 have HB1 := uH (heap_alloc_new w (.cells #[.int .i64 0, .slice p ts.length cap] 35))
 obtain ⟨i0, hi, hz0, hz1, hz2⟩ := info_parts Tryz.infoStr
 clear ht htc hg hp
 go_enter Tryz.func114, Tryz.ntmps114
 go_wp2
 have HG1 := uH (gA w (.cells #[.int .i64 0, .slice p ts.length cap] 35) none)
 have hs1 : (w.alloc (.cells #[.int .i64 0, .slice p ts.length cap] 35)).heap.size = w.heap.size + 1 := by simp
 generalize w.alloc (.cells #[.int .i64 0, .slice p ts.length cap] 35) = w1 at *
 go_loopw [14, 3] (fun i s3 wr => ∃ (k : Nat) (v : Value), k ≤ ts.length ∧ i = .int .i64 k ∧ s3 = v ∧ Hid (wr.ownsRow (w.heap.size + 1) 9 1 v k ((ts.take k).map fun t => Value.string (keyN (partL t)))) ∧ Hid (w1.grownBy wr none)) (fun i _ _ => ts.length - (intOf i).toNat)
 case atStart => exact ⟨0, _, Nat.zero_le _, rfl, rfl, World.ownsRow_nil _ _ _ _, gR _ _⟩
 case round =>
  obtain ⟨k, v, hk, rfl, rfl, HO, HG2⟩ := hrel
  by_cases hlt : k < ts.length
  · have h0 := List.getElem?_eq_getElem hlt
    obtain ⟨b, off, rfl, h3, h4, h5, h6, h7⟩ := ((HT.out k _ h0).kept HG1.out).kept HG2.out
    have hgt := HG.out _ (List.getElem_mem hlt)
    have HTk := uH (List.take_succ_eq_append_getElem hlt)
    have hsw := HG2.out.size
    generalize ts[k] = t at *
    obtain ⟨n, z⟩ := t
    simp only at h3 h4 h5 h6 h7 hgt
    have hI1 : (k : Int) < (ts.length : Int) := by omega
    obtain ⟨hn1, hz3⟩ := hgt
    have hwn : IntKind.i64.wrap (-z) = -z := wrap_near (by omega)
    have hmax : max z (-z) = ((z.natAbs : Nat) : Int) := by omega
    have HPw : Hid (PowTab wr) := (HP.out.kept HG1.out).kept HG2.out
    clear h0
    by_cases hm : z.natAbs = 1
    · have hm1 : (((z.natAbs : Nat) : Int) != 1) = false := by simp [hm]
      have HE := uH (part_one (n := n) hm)
      have hg3 : (keyN (signL z)).size = 3 := sign_size z
      have HSg := uH (sign_any z)
      have hA : (9223372036854775807 < (keyN (signL z)).size + n.size) = False := eq_false (by omega)
      generalize keyN (signL z) = sg at *
      clear hm hg3
      go_wp2_with (first
       | (go_at_call 145; go_must (refine (HSg.out _).mono ?_; rintro e w4 ⟨rfl, hg4⟩; have HG4 := uH (gT (gA _ _ _) hg4); clear hg4))
       | (at_builtin; go_must (refine wpList_append_lies _ rfl _ _ 54 rfl (w.heap.size + 1) 9 i0 (.string ByteArray.empty) 1 16 Tryz.underlying54 hi hz0 hz1 hz2 rfl (by decide) _ k ((ts.take k).map fun t => Value.string (keyN (partL t))) rfl (World.ownsRow.alloc (owns_kept HO.out HG4.out) _) ⟨w4.heap.size, 0, none⟩ 1 1 [.string (sg ++ n)] rfl rfl news_at (by simp [Value.oneCell']) (by decide) (by unfold maxLen; omega) (by omega) (by have := HG4.out.size; simp; omega) (w4.heap.size + 1) (by simp) ?_; intro g ncap w5 hown5 hgrow5 hat _; have O5 := uH hown5; have G5 := uH (gO (gT HG2.out (gT HG4.out (gA _ _ none))) hgrow5 (fun k hk => by have := (HO.out.lt k hk).1; omega)); clear hown5 hgrow5 hat)))
      go_roundw
      case rel => exact ⟨k + 1, _, by omega, by go_num, rfl, by
       have h := O5.out
       rw [HE.out] at h
       show World.ownsRow _ _ _ _ _ _ _
       rw [HTk.out, List.map_append]
       exact h, G5.out⟩
      case measure => simp [intOf]; omega
    · have hm1 : (((z.natAbs : Nat) : Int) != 1) = true := by simp; omega
      have HE := uH (part_more (n := n) hm)
      have hg3 : (keyN (signL z)).size = 3 := sign_size z
      have hd3 : (keyN (Lib.decDigits z.natAbs)).size ≤ 1000000001 := by
       have := dec_length z.natAbs
       show (Lib.decDigits z.natAbs).toArray.size ≤ _
       rw [List.size_toArray]
       omega
      have HSg := uH (sign_any z)
      have HNm := uH (fun W hW => number_any z.natAbs W (by omega) hW)
      generalize keyN (signL z) = sg at *
      generalize keyN (Lib.decDigits z.natAbs) = dg at *
      have e42 : (ByteArray.mk #[42]).size = 1 := rfl
      have hs42 : (dg ++ ByteArray.mk #[42]).size = dg.size + 1 := by rw [ByteArray.size_append]; rfl
      have hA1 : (9223372036854775807 < dg.size + (ByteArray.mk #[42]).size) = False := eq_false (by omega)
      have hA2 : (9223372036854775807 < dg.size + 1) = False := eq_false (by omega)
      have hA3 : (9223372036854775807 < (dg ++ ByteArray.mk #[42]).size + n.size) = False := eq_false (by omega)
      have hA4 : (9223372036854775807 < dg.size + 1 + n.size) = False := eq_false (by omega)
      have hA5 : (9223372036854775807 < sg.size + (dg ++ ByteArray.mk #[42] ++ n).size) = False := eq_false (by rw [ByteArray.size_append]; omega)
      have hA6 : (9223372036854775807 < sg.size + (dg.size + 1 + n.size)) = False := eq_false (by omega)
      clear hm hg3 hd3 e42 hs42
      go_upto_region 8 with fail
      have HGb := uH (gA wr (.cells #[.string n, .int .i64 z] 65) none)
      have b0 : (wr.alloc (.cells #[.string n, .int .i64 z] 65)).cell? ⟨wr.heap.size, 0, none⟩ = some (.string n) := by simp
      have b1 : (wr.alloc (.cells #[.string n, .int .i64 z] 65)).cell? ⟨wr.heap.size, 1, none⟩ = some (.int .i64 z) := by simp
      have HPb : Hid (PowTab (wr.alloc (.cells #[.string n, .int .i64 z] 65))) := HPw.out.kept HGb.out
      generalize wr.alloc (.cells #[.string n, .int .i64 z] 65) = Wb at *
      have HX0 := uH b0
      have HX1 := uH b1
      go_region_held3 (fun W => W.cell? ⟨wr.heap.size, 0, none⟩ = some (.string n)) (first
       | go_keep
       | (with_reducible exact K4.out.cell HX0.out (by simp))) (first
       | (go_at_call 144; go_must (refine (HNm.out _ (HPb.out.kept (by first | exact gR _ _ | exact gD _ _))).mono ?_; rintro e wq ⟨rfl, hg4⟩; have K4 : Hid (Wb.grownBy wq none) := gT (by first | exact gR _ _ | exact gD _ _) hg4; clear hg4)))
      all_goals
       have c1 := K4.out.cell HX1.out (by simp)
       go_wp2_with (first
        | (go_at_call 145; go_must (refine (HSg.out _).mono ?_; rintro e w4 ⟨rfl, hg4⟩; have HG4 : Hid (wr.grownBy w4 none) := gT HGb.out (gT K4.out (by first | exact hg4 | exact gT (gD _ _) hg4)); clear hg4))
        | (at_builtin; go_must (refine wpList_append_lies _ rfl _ _ 54 rfl (w.heap.size + 1) 9 i0 (.string ByteArray.empty) 1 16 Tryz.underlying54 hi hz0 hz1 hz2 rfl (by decide) _ k ((ts.take k).map fun t => Value.string (keyN (partL t))) rfl (World.ownsRow.alloc (owns_kept HO.out HG4.out) _) ⟨w4.heap.size, 0, none⟩ 1 1 [.string (sg ++ (dg ++ ByteArray.mk #[42] ++ n))] rfl rfl news_at (by simp [Value.oneCell']) (by decide) (by unfold maxLen; omega) (by omega) (by have := HG4.out.size; simp; omega) (w4.heap.size + 1) (by simp) ?_; intro g ncap w5 hown5 hgrow5 hat _; have O5 := uH hown5; have G5 := uH (gO (gT HG2.out (gT HG4.out (gA _ _ none))) hgrow5 (fun k hk => by have := (HO.out.lt k hk).1; omega)); clear hown5 hgrow5 hat)))
       go_roundw
       case rel => exact ⟨k + 1, _, by omega, by go_num, rfl, by
        have h := O5.out
        rw [HE.out] at h
        show World.ownsRow _ _ _ _ _ _ _
        rw [HTk.out, List.map_append]
        exact h, G5.out⟩
       case measure => simp [intOf]; omega
  · obtain rfl : k = ts.length := by omega
    have hO := HO.out
    rw [List.take_length] at hO
    obtain ⟨pv, jcap, rfl⟩ := own_form hO
    have hbx := kH HB1.out HG2.out (by simp)
    obtain ⟨c0, c1, _⟩ := cO hbx
    obtain ⟨d0, _, _⟩ := cO HB1.out
    have HD0 := uH d0
    clear d0
    by_cases he : ts = []
    · have hl0 : ts.length = 0 := by rw [he]; rfl
      have hlz : ((ts.length : Int) == 0) = true := by simp [he]
      have HO1 : Hid (wr.ownsRow (w.heap.size + 1) 9 1 (.slice pv 0 jcap) 0 ([] : List Value)) := by
       have h := hO
       rw [hl0, he] at h
       exact h
      have HPw : Hid (PowTab wr) := (HP.out.kept HG1.out).kept HG2.out
      have hsw := HG2.out.size
      have HS0 : Hid (∀ W, Calls Tryz.prog 145 #[.int .i64 0] W (Gives (.string (keyN [32, 43, 32])) W)) := fun W => sign_any 0 W
      have HN0 : Hid (∀ W, PowTab W → Calls Tryz.prog 144 #[.int .i64 0] W (Gives (.string (keyN [48])) W)) := fun W hW => by
       have h := number_any 0 W (by omega) hW
       have e : Lib.decDigits 0 = [48] := by rw [Lib.decDigits]; rfl
       rw [e] at h
       exact h
      have hs3 : (keyN [32, 43, 32]).size = 3 := rfl
      have hs1' : (keyN [48]).size = 1 := rfl
      have hB1 : (9223372036854775807 < (keyN [32, 43, 32]).size + (keyN [48]).size) = False := eq_false (by omega)
      have hparts : partsOf ts = [keyN [32, 43, 32] ++ keyN [48]] := by unfold partsOf; rw [if_pos he]; rfl
      have HPt : Hid ((partsOf ts).map Value.string = [Value.string (keyN [32, 43, 32] ++ keyN [48])]) := by show _ = _; rw [hparts]; rfl
      have hpl : (partsOf ts).length = 1 := by rw [hparts]; rfl
      generalize keyN [32, 43, 32] = sg at *
      generalize keyN [48] = dg at *
      rw [hl0] at *
      clear he hl0 hparts hs3 hs1' hO HO
      go_upto_region 12 with fail
      go_region_held3 (fun W => W.cell? ⟨w.heap.size, 0, none⟩ = some (.int .i64 0)) (first
       | go_keep
       | (with_reducible exact K.out.cell c0 (by simp))
       | (with_reducible exact G5.out.cell HD0.out (by simp))
       | (with_reducible exact (gT K.out (gA _ _ none)).cell c0 (by simp))) (first
       | (go_at_call 145; go_must (refine (HS0.out _).mono ?_; rintro e w4 ⟨rfl, hg4⟩; have K : Hid (wr.grownBy w4 none) := gT (by first | exact gD _ _ | exact K.out | exact gT K.out (gD _ _) | exact gR _ _) hg4; clear hg4))
       | (go_at_call 144; go_must (refine (HN0.out _ (HPw.out.kept (by first | exact gD _ _ | exact K.out | exact gT K.out (gD _ _) | exact gR _ _))).mono ?_; rintro e w4 ⟨rfl, hg4⟩; have K : Hid (wr.grownBy w4 none) := gT (by first | exact gD _ _ | exact K.out | exact gT K.out (gD _ _) | exact gR _ _) hg4; clear hg4))
       | (refine step_append_lies _ (by rfl) _ _ 54 (by rfl) (w.heap.size + 1) 9 i0 (.string ByteArray.empty) 1 16 Tryz.underlying54 hi hz0 hz1 hz2 (by rfl) (by decide) _ 0 [] (by rfl) (World.ownsRow.alloc (owns_kept HO1.out K.out) _) ⟨w4.heap.size, 0, none⟩ 1 1 [.string (sg ++ dg)] (by rfl) (by rfl) news_at (by simp [Value.oneCell']) (by decide) (by unfold maxLen; omega) (by omega) (by have := K.out.size; simp; omega) (w4.heap.size + 1) (by simp) ?_; intro g ncap w5 hown5 hgrow5 hat _; have O5 := uH hown5; have G5 := uH (gO (gT HG2.out (gT K.out (gA _ _ none))) hgrow5 (fun k hk => by have := (HO1.out.lt k hk).1; omega)); clear hown5 hgrow5 hat))
      all_goals
       have hrow5 := O5.out
       simp only [List.nil_append, Nat.zero_add] at hrow5
       rw [← HPt.out] at hrow5
       have HR5 := uH hrow5
       clear hrow5
       have hol := out_length hl HG.out
       have hoz := trim_size (outL ts) [32, 45, 32]
       have hA1 : (9223372036854775807 < (ByteArray.mk #[45]).size + (keyN (Lib.trimPrefix (outL ts) [32, 45, 32])).size) = False := eq_false (by have e : (ByteArray.mk #[45]).size = 1 := rfl; omega)
       have hA2 : (9223372036854775807 < 1 + (keyN (Lib.trimPrefix (outL ts) [32, 45, 32])).size) = False := eq_false (by omega)
       clear hol hoz
       by_cases hq : [32, 43, 32].isPrefixOf (outL ts) = true
       · have HQ : Hid (keyN (Lib.trimPrefix (outL ts) [32, 43, 32]) = keyN (wordsL (outL ts))) := by
          show _ = _
          rw [words_cut hq]
          unfold Lib.trimPrefix Lib.hasPrefix
          rw [if_pos hq]
          rfl
         generalize hoo : outL ts = o at *
         go_wp2_with (first
          | (go_at_call 146; go_must (refine (joinO_any hoo (w.heap.size + 1) g ncap 1 _ hpl HR5.out hl HG.out).mono ?_; rintro e w6 ⟨rfl, hg6⟩; have G6 := uH hg6; clear hg6))
          | (go_at_call 147; go_must (refine (cutPrefix_any o _).mono ?_; rintro e w7 ⟨rfl, rfl⟩; rw [HQ.out, hq])))
         go_ret
         exact ⟨rfl, gT HG1.out (gT G5.out (by first | exact G6.out | exact gT (gD _ _) G6.out))⟩
       · have hq' : [32, 43, 32].isPrefixOf (outL ts) = false := (Bool.not_eq_true _).mp hq
         have HQ := uH (words_trim hq')
         generalize hoo : outL ts = o at *
         go_wp2_with (first
          | (go_at_call 146; go_must (refine (joinO_any hoo (w.heap.size + 1) g ncap 1 _ hpl HR5.out hl HG.out).mono ?_; rintro e w6 ⟨rfl, hg6⟩; have G6 := uH hg6; clear hg6))
          | (go_at_call 147; go_must (refine (cutPrefix_any o _).mono ?_; rintro e w7 ⟨rfl, rfl⟩; rw [hq']))
          | (go_at_call 148; go_must (refine (trimPrefix_any o _).mono ?_; rintro e w8 ⟨rfl, rfl⟩)))
         go_ret
         exact ⟨by rw [HQ.out]; rfl, gT HG1.out (gT G5.out (by first | exact G6.out | exact gT (gD _ _) G6.out))⟩
    · have hlz : ((ts.length : Int) == 0) = false := by
       rw [Bool.eq_false_iff]
       intro e
       have := eq_of_beq e
       exact he (List.length_eq_zero_iff.1 (by omega))
      have hpl : (partsOf ts).length = ts.length := by rw [parts_length, if_neg he]
      have hpm : (ts.map fun t => Value.string (keyN (partL t))) = (partsOf ts).map Value.string := by unfold partsOf; rw [if_neg he, List.map_map]; rfl
      rw [hpm] at hO
      obtain ⟨g, rfl⟩ : ∃ g, pv = some ⟨g, 0, none⟩ := by
       rcases hO.2 with ⟨_, hz⟩ | ⟨g', cap', cur, hv, _⟩
       · exact absurd (List.length_eq_zero_iff.1 hz) he
       · exact ⟨g', (Value.slice.inj hv).1⟩
      have HR5 := uH hO
      clear hO HO hpm he
      have hol := out_length hl HG.out
      have hoz := trim_size (outL ts) [32, 45, 32]
      have hA1 : (9223372036854775807 < (ByteArray.mk #[45]).size + (keyN (Lib.trimPrefix (outL ts) [32, 45, 32])).size) = False := eq_false (by have e : (ByteArray.mk #[45]).size = 1 := rfl; omega)
      have hA2 : (9223372036854775807 < 1 + (keyN (Lib.trimPrefix (outL ts) [32, 45, 32])).size) = False := eq_false (by omega)
      clear hol hoz
      by_cases hq : [32, 43, 32].isPrefixOf (outL ts) = true
      · have HQ : Hid (keyN (Lib.trimPrefix (outL ts) [32, 43, 32]) = keyN (wordsL (outL ts))) := by
         show _ = _
         rw [words_cut hq]
         unfold Lib.trimPrefix Lib.hasPrefix
         rw [if_pos hq]
         rfl
        generalize hoo : outL ts = o at *
        go_wp2_with (first
         | (go_at_call 146; go_must (refine (joinO_any hoo (w.heap.size + 1) g jcap ts.length _ hpl HR5.out hl HG.out).mono ?_; rintro e w6 ⟨rfl, hg6⟩; have G6 := uH hg6; clear hg6))
         | (go_at_call 147; go_must (refine (cutPrefix_any o _).mono ?_; rintro e w7 ⟨rfl, rfl⟩; rw [HQ.out, hq])))
        go_ret
        exact ⟨rfl, gT HG1.out (gT HG2.out G6.out)⟩
      · have hq' : [32, 43, 32].isPrefixOf (outL ts) = false := (Bool.not_eq_true _).mp hq
        have HQ := uH (words_trim hq')
        generalize hoo : outL ts = o at *
        go_wp2_with (first
         | (go_at_call 146; go_must (refine (joinO_any hoo (w.heap.size + 1) g jcap ts.length _ hpl HR5.out hl HG.out).mono ?_; rintro e w6 ⟨rfl, hg6⟩; have G6 := uH hg6; clear hg6))
         | (go_at_call 147; go_must (refine (cutPrefix_any o _).mono ?_; rintro e w7 ⟨rfl, rfl⟩; rw [hq']))
         | (go_at_call 148; go_must (refine (trimPrefix_any o _).mono ?_; rintro e w8 ⟨rfl, rfl⟩)))
        go_ret
        exact ⟨by rw [HQ.out]; rfl, gT HG1.out (gT HG2.out G6.out)⟩
end Go.Proofs.YtgeklmigfhhpfaaGreatDoor
namespace Go.Proofs.YtgeklmigfhhpfaaGreatDoor
open Go.RowKit
attribute [local go_sem ↓] Go.wp_at_zero Go.wp_at_succ
set_option maxRecDepth 100000 in
set_option maxHeartbeats 1000000 in
theorem key_any (c : Int) (ts : List TermD) (tv : Value) (w : World) (hp : PowTab w) (ht : TermsAt w tv ts) (hl : ts.length ≤ 900) (hg : ∀ t ∈ ts, t.1.size ≤ 100 ∧ t.2.natAbs ≤ 1000000000) :
  Calls Tryz.prog 68 #[.agg #[.int .i64 c, tv]] w (Gives (.string (keyN (wordsL (outL ts)))) w) := by
 obtain ⟨p, cap, rfl, _, _⟩ := id ht
 have HT := uH ht
 have HG := uH hg
 have HP := uH hp
 clear ht hg hp
 have HK : Hid (w.grownBy (w.alloc (.cells #[.int .i64 0, .slice p ts.length cap] 35)) none) := gA w _ none
 go_enter Tryz.func68, Tryz.ntmps68
 go_wp2_with (go_at_call 114; go_must (refine (words_any ts _ _ (HP.out.kept HK.out) (HT.out.kept HK.out) hl HG.out).mono ?_; rintro e w2 ⟨rfl, hg2⟩; have G2 := uH hg2; clear hg2))
 go_ret
 exact ⟨rfl, gT HK.out G2.out⟩
end Go.Proofs.YtgeklmigfhhpfaaGreatDoor
