/-
 A list of lists that visits make.
 lists: where Projected keeps each.
 lists: its visit, where Projected keeps each.
-/
import Derived.Test.YtfilcaolgfghcaaGreatGo2
import Derived.Test.YtfilcaolgfghcaaGreatListsX
namespace Go.Proofs.YtfilcaolgfghcaaGreat
open Go.RowKit

/-- What the visits of Points have made: a row of points of their own, in the variable's block. -/
def ListInv (V Bb : Nat) (d : List (List Int)) (w : World) : Prop :=
  ∃ ov vs, w.heap[V]? = some (.cells #[ov] 48 (0, 0)) ∧ w.ownsRow (Bb + 1) 22 1 ov d.length vs ∧ RowsAre w (Bb + 1) ov.ownBlock vs d

def goRoom (d : List (List Int)) : Bool := decide (d.length ≤ 5000)

theorem list_steady {V Bb : Nat} (h : V < Bb) : Steady Bb (ListInv V Bb) := by
  rintro d w w' ⟨ov, vs, h1, h2, h3⟩ hg
  refine ⟨ov, vs, heap_keep h1 hg (by simp; omega), h2.kept hg ?_, h3.kept hg (.inr fun k hk => by cases hk; omega)⟩
  cases hb : ov.ownBlock with
  | none => exact .inl rfl
  | some g =>
    refine .inr fun e => ?_
    have := (h2.lt g hb).1
    have := Option.some.inj e
    omega

theorem list_push {w w1 w2 : World} {V P : Nat} {ov rp : Value} {d : List (List Int)} {pt : List Int} {vs : List Value} {o x : Obj} {g cap : Nat} (hx : w.heap[V]? = some x) (h2 : w.ownsRow P 22 1 ov d.length vs) (h3 : RowsAre w P ov.ownBlock vs d)
    (k1 : w.grownBy w1 none) (hrv : w1.ownsRow P 3 1 rp pt.length (pt.map (Value.int .i64))) (hrn : ∀ b, rp.ownBlock = some b → w.heap.size ≤ b) (k2' : (w1.alloc o).grownBy w2 ov.ownBlock)
    (ho : w2.ownsRow P 22 1 (.slice (some ⟨g, 0, none⟩) (d.length + 1) cap) (d.length + 1) (vs ++ [rp])) (hg' : ov.ownBlock = some g ∨ g = w1.heap.size + 1) (hV : V < P) :
    w2.heap[V]? = some x ∧ (w2.setCell ⟨V, 0, none⟩ (.slice (some ⟨g, 0, none⟩) (d.length + 1) cap)).ownsRow P 22 1 (.slice (some ⟨g, 0, none⟩) (d.length + 1) cap) (d.length + 1) (vs ++ [rp]) ∧
      RowsAre (w2.setCell ⟨V, 0, none⟩ (.slice (some ⟨g, 0, none⟩) (d.length + 1) cap)) P (some g) (vs ++ [rp]) (d ++ [pt]) := by
  have k2 : w1.grownBy w2 ov.ownBlock := grownBy_trans (World.grownBy_alloc _ _ _) k2'
  have hg : ov.ownBlock = some g ∨ w1.heap.size ≤ g := by rcases hg' with h | h; exact .inl h; exact .inr (by omega)
  have k3 := grown_set w2 V 0 (.slice (some ⟨g, 0, none⟩) (d.length + 1) cap)
  generalize w2.setCell ⟨V, 0, none⟩ (.slice (some ⟨g, 0, none⟩) (d.length + 1) cap) = w3 at *
  have hob : ∀ k, ov.ownBlock = some k → P ≤ k ∧ k < w.heap.size := h2.lt
  have hgv : (Value.slice (some ⟨g, 0, none⟩) (d.length + 1) cap).ownBlock = some g := rfl
  refine ⟨heap_keep (heap_keep hx k1 (by simp)) k2 (fun e => by have := hob _ e; omega), ?_, ?_⟩
  · refine ho.kept k3 (.inr fun e => ?_)
    rw [hgv] at e
    have := (ho.lt g hgv).1
    have := Option.some.inj e
    omega
  · have hk : ∀ (r : Value) (p : List Int), w1.ownsRow P 3 1 r p.length (p.map (Value.int .i64)) → (r.ownBlock = none ∨ r.ownBlock ≠ ov.ownBlock) → w3.ownsRow P 3 1 r p.length (p.map (Value.int .i64)) := fun r p hr hn => by
      refine (hr.kept k2 hn).kept k3 ?_
      cases hb : r.ownBlock with
      | none => exact .inl rfl
      | some b =>
        refine .inr fun e => ?_
        have := (hr.lt b hb).1
        have := Option.some.inj e
        omega
    refine ⟨by simp [h3.1], fun j p hj => ?_⟩
    by_cases hj' : j < d.length
    · rw [List.getElem?_append_left hj'] at hj
      obtain ⟨r, r1, r2, r3⟩ := h3.2 j p hj
      refine ⟨r, by rw [List.getElem?_append_left (by rw [h3.1]; exact hj')]; exact r1, hk r p (owns_kept r2 k1) r3, ?_⟩
      cases hb : r.ownBlock with
      | none => exact .inl rfl
      | some b =>
        refine .inr fun e => ?_
        have e := Option.some.inj e
        rcases hg with hg | hg
        · rcases r3 with r3 | r3
          · rw [hb] at r3; cases r3
          · exact r3 (by rw [hb, hg, e])
        · have := (r2.lt b hb).2
          have := k1.size
          omega
    · have hj2 : j = d.length := by
        have := (List.getElem?_eq_some_iff.1 hj).1
        simp at this
        omega
      subst hj2
      simp at hj
      subst hj
      refine ⟨rp, by rw [← h3.1]; simp, hk rp pt hrv ?_, ?_⟩
      · cases hb : rp.ownBlock with
        | none => exact .inl rfl
        | some b =>
          refine .inr fun e => ?_
          have := hrn b hb
          have := hob b e.symm
          omega
      · cases hb : rp.ownBlock with
        | none => exact .inl rfl
        | some b =>
          refine .inr fun e => ?_
          have e := Option.some.inj e
          have h5 := hrn b hb
          have h6 := (hrv.lt b hb).2
          rcases hg with hg | hg
          · have := hob g hg
            omega
          · omega

theorem walkP_room : ∀ (ps d : List (List Int)), d.length ≤ 5000 → walkP goRoom d ps = if d.length + ps.length ≤ 5000 then (d ++ ps, true) else ((d ++ ps).take 5001, false)
  | [], d, h => by simp [walkP, h]
  | p :: r, d, h => by
    simp only [walkP]
    by_cases h1 : d.length + 1 ≤ 5000
    · have e : goRoom (d ++ [p]) = true := by simp [goRoom]; omega
      rw [if_pos e, walkP_room r (d ++ [p]) (by simp; omega)]
      have h3 : (d ++ [p]).length + r.length = d.length + (p :: r).length := by simp; omega
      rw [h3, List.append_assoc]
      rfl
    · have e : goRoom (d ++ [p]) = false := by simp [goRoom]; omega
      rw [e, if_neg (by simp), if_neg (by simp; omega)]
      have hd : d.length = 5000 := by omega
      congr 1
      rw [show d ++ p :: r = (d ++ [p]) ++ r by simp, List.take_left' (by simp [hd])]


end Go.Proofs.YtfilcaolgfghcaaGreat

namespace Go.Proofs.YtfilcaolgfghcaaGreat
open Go.RowKit
attribute [local go_sem ↓] Go.wp_at_zero Go.wp_at_succ

theorem list_keep {V Bb : Nat} {d : List (List Int)} {w w' : World} {r : Option Nat} (h : ListInv V Bb d w) (hg : w.grownBy w' r) (hr : ∀ k, r = some k → k ≤ Bb ∧ k ≠ V) : ListInv V Bb d w' := by
  obtain ⟨ov, vs, h1, h2, h3⟩ := h
  refine ⟨ov, vs, heap_keep h1 hg (fun e => (hr _ e).2 rfl), h2.kept hg ?_, h3.kept hg (.inr fun k hk => by have := (hr k hk).1; omega)⟩
  cases hb : ov.ownBlock with
  | none => exact .inl rfl
  | some g =>
    refine .inr fun e => ?_
    have := (h2.lt g hb).1
    have := (hr g e.symm).1
    omega

def fvPro (V : Nat) : Value := .func (.func 47) #[] #[.pointer (some ⟨V, 0, none⟩)]

set_option maxRecDepth 100000 in
set_option maxHeartbeats 2000000 in
theorem proj1_any (V Bb : Nat) (d : List (List Int)) (pt : List Int) (rp : Option Addr) (n rcap : Nat) (w w1 : World) (hV : V ≤ Bb) (hBb : Bb < w.heap.size) (hi : ListInv V Bb d w) (hd : d.length ≤ 900000) (hg : w.grownBy w1 none)
    (ho : w1.ownsRow (Bb + 1) 3 1 (.slice rp n rcap) pt.length (pt.map (Value.int .i64))) (hb : ∀ b, (Value.slice rp n rcap).ownBlock = some b → w.heap.size ≤ b) :
    Calls Tryz.prog 47 #[.slice rp n rcap, .pointer (some ⟨V, 0, none⟩)] w1 (fun e w' => e = .returned (.bool (decide (d.length + 1 ≤ 5000))) ∧ ListInv V Bb (d ++ [pt]) w' ∧ ∃ r wm, w1.grownBy wm r ∧ (∀ k, r = some k → Bb < k) ∧ wm.grownBy w' (some V)) := by
  obtain ⟨ov, vs, h1, h2, h3⟩ := hi
  obtain ⟨po, ocap, rfl⟩ := own_form h2
  have hb1 := heap_keep h1 hg (by simp)
  have c1 : w1.cell? ⟨V, 0, none⟩ = some (.slice po d.length ocap) := by simp [World.cell?, hb1]
  have c1' := (World.grownBy_alloc w1 (.cells #[.slice rp n rcap] 22) none).cell c1 (by simp)
  have H1 := Lib.hid h1
  have H2 := Lib.hid h2
  have H3 := Lib.hid h3
  have HG := Lib.hid hg
  have HO := Lib.hid ho
  have HB := Lib.hid hb
  have HBb := Lib.hid (show ∀ k, (Value.slice po d.length ocap).ownBlock = some k → Bb < k from fun k hk => (h2.lt k hk).1)
  have hs1 := hg.size
  clear h1 h2 h3 hg ho hb hb1
  obtain ⟨dl, hdl⟩ : ∃ dl, d.length = dl := ⟨_, rfl⟩
  have HDl := Lib.hid hdl
  rw [hdl] at hd H2 c1 c1' HBb
  obtain ⟨i0, hi, hz0, hz1, hz2⟩ := info_parts Tryz.infoInts
  clear hdl
  go_enter Tryz.func47, Tryz.ntmps47
  go_wp2_with (first
    | (at_builtin; go_must (refine wpList_append_lies _ rfl _ _ 48 rfl (Bb + 1) 22 i0 (.slice none 0 0) 1 24 Tryz.underlying48 hi hz0 hz1 hz2 rfl (by decide) (.slice po dl ocap) dl vs rfl (World.ownsRow.alloc (owns_kept H2.out HG.out) _) ⟨w1.heap.size, 0, none⟩ 1 1 [.slice rp n rcap] rfl rfl news_at (by intro u hu; obtain rfl := List.mem_singleton.1 hu; rfl) (by decide) (by unfold maxLen; omega) (by omega) (by simp; omega) (w1.heap.size + 1) (by simp) ?_; intro g ncap w2 hown2 hgrow2 hat _; have hb2 := heap_keep (heap_keep H1.out (grownBy_trans HG.out (World.grownBy_alloc w1 (.cells #[.slice rp n rcap] 22) none)) (by simp)) hgrow2 (fun e => by have := HBb.out _ e; omega); have c3 : w2.cell? ⟨V, 0, none⟩ = some (.slice po d.length ocap) := (by simp [World.cell?, hb2]); have f3 : w2.frozen? ⟨V, 0, none⟩ = false := (by simp [World.frozen?, hb2]); have B2 := Lib.hid hb2; have O2 := Lib.hid hown2; have G2 := Lib.hid hgrow2; have A2 := Lib.hid hat; clear hb2 hown2 hgrow2 hat)))
  go_ret
  obtain rfl := HDl.out
  obtain ⟨p1, p2, p3⟩ := list_push (rp := .slice rp n rcap) (pt := pt) (o := .cells #[.slice rp n rcap] 22) H1.out H2.out H3.out HG.out HO.out HB.out G2.out O2.out A2.out (by omega)
  refine ⟨ret_bool (decide_eq_decide.2 (by omega)), ⟨.slice (some ⟨g, 0, none⟩) (d.length + 1) ncap, vs ++ [Value.slice rp n rcap], ?_, ?_, ?_⟩, _, w2, grownBy_trans (grownBy_any _ (World.grownBy_alloc w1 (.cells #[.slice rp n rcap] 22) none)) G2.out, HBb.out, grown_set w2 V 0 _⟩
  · show (w2.heap.modify V _)[V]? = _
    rw [Array.getElem?_modify, if_pos rfl, B2.out]
    simp
  · simpa using p2
  · exact p3

end Go.Proofs.YtfilcaolgfghcaaGreat

namespace Go.Proofs.YtfilcaolgfghcaaGreat
open Go.RowKit
attribute [local go_sem ↓] Go.wp_at_zero Go.wp_at_succ

theorem owns_lowP {w : World} {base base' : Nat} {e : TypeId} {size : Nat} {v : Value} {n : Nat} {xs : List Value} (h : w.ownsRow base e size v n xs) (hb : base' ≤ base) : w.ownsRow base' e size v n xs := by
  obtain ⟨a1, a2⟩ := h
  refine ⟨a1, ?_⟩
  rcases a2 with a2 | ⟨g, cap, cur, hv, hb, r⟩
  · exact .inl a2
  · exact .inr ⟨g, cap, cur, hv, by omega, r⟩

/-- What lists' visits leave, where Projected keeps each. -/
structure ListsP (V : Nat) (rs : List RowD) (kv : Value) (Bb : Nat) (d : List (List Int)) (w : World) : Prop where
  rows : w.heap[V + 1 + 1]? = some (.cells #[kv] 75 (0, 0))
  fn : w.heap[V + 1 + 1 + 1]? = some (.cells #[fvPro V] 61 (0, 0))
  box : w.heap[V + 1 + 1 + 1 + 1 + 1]? = some (.cells #[.map (some (V + 1 + 1 + 1 + 1))] 123 (0, 0))
  seen : ∃ D, SeenAt w (V + 1 + 1 + 1 + 1) (distL rs d).length D ∧ SeenD rs.length D (distL rs d)
  list : ListInv V Bb (distL rs d) w

theorem ListsP.keep {V B : Nat} {rs : List RowD} {kv : Value} {d : List (List Int)} {w w' : World} {r : Option Nat} (h : ListsP V rs kv B d w) (hg : w.grownBy w' r) (hr : ∀ k, r = some k → k ≤ B ∧ ¬ (V ≤ k ∧ k < V + 6)) : ListsP V rs kv B d w' := by
  obtain ⟨D, h1, h2⟩ := h.seen
  have ne : ∀ k, V ≤ k → k < V + 6 → r ≠ some k := fun k a b e => (hr k e).2 ⟨a, b⟩
  exact ⟨heap_keep h.rows hg (ne _ (by omega) (by omega)), heap_keep h.fn hg (ne _ (by omega) (by omega)), heap_keep h.box hg (ne _ (by omega) (by omega)), ⟨D, World.ownsMap.kept h1 hg (ne (V + 1 + 1 + 1 + 1) (by omega) (by omega)).symm, h2⟩, list_keep h.list hg (fun k hk => ⟨(hr k hk).1, fun e => (hr k hk).2 (by omega)⟩)⟩
theorem listsP_steady {V Bb : Nat} {rs : List RowD} {kv : Value} (h : V + 6 ≤ Bb) : Steady Bb (ListsP V rs kv Bb) := fun d w w' hi hg => hi.keep hg (fun k hk => by cases hk; omega)

def goProj (rs : List RowD) (d : List (List Int)) : Bool := decide ((distL rs d).length ≤ 5000 ∨ distL rs d = distL rs d.dropLast)

set_option maxRecDepth 100000 in
set_option maxHeartbeats 4000000 in
theorem projs_visit {wE wp : World} {V Bb n : Nat} {rs : List RowD} {kv : Value} (hp : wp.grownBy wE none) (hpV : wp.heap.size ≤ V) (hk : RowLAt wp kv rs) (hg : ∀ r ∈ rs, goodRow n r) (hn : n ≤ 8) (hrs : rs.length ≤ 8) (hV : V + 5 < wE.heap.size) : VisitOkM wE V (V + 6) Bb n (ListsP V rs kv Bb) (goProj rs) := by
  intro d pt w h hb hd
  have hi : ListsP V rs kv Bb d w := h.inv
  have hx := h.ints (by omega) n n (Nat.le_refl _) (by rw [List.take_of_length_le (by rw [h.len]; exact Nat.le_refl _)]; exact hb)
  rw [List.take_of_length_le (by rw [h.len]; exact Nat.le_refl _)] at hx
  have hkw := hk.kept (h.framed.pre hp hpV)
  obtain ⟨p, cap, rfl, hlen, hc⟩ := hkw
  have HC := Lib.hid hc
  have HX := Lib.hid hx
  have HB := Lib.hid hb
  have HS := Lib.hid h
  have HI := Lib.hid hi
  have HG0 := Lib.hid hg
  have HL := Lib.hid (show pt.length ≤ n by rw [h.len]; exact Nat.le_refl _)
  have HVl := Lib.hid (show (valsOf rs pt).length = rs.length by simp [valsOf])
  have HW := Lib.hid (valsOf_good hn hg HL.out hb)
  have HD := Lib.hid (show (distL rs d).length ≤ 900000 by have := distL_len rs d []; simp only [distL]; simp at this; omega)
  have v0 := (one_cell hi.rows).1
  have v1 := (one_cell hi.box).1
  have v2 := (one_cell hi.fn).1
  have HA := Lib.hid (arr_start w)
  have v0a := HA.out.grown.cell v0 (by simp)
  clear h hb hd hi hx hk hg hc
  go_enter Tryz.func78, Tryz.ntmps78
  go_wp2
  go_loopw [11] (fun i wr => ∃ k : Nat, k ≤ rs.length ∧ i = .int .i64 k ∧ Hid (ArrSt w wr w.heap.size ((valsOf rs pt).take k))) (fun i _ => rs.length - (intOf i).toNat)
  case atStart => exact ⟨0, Nat.zero_le _, rfl, HA.out⟩
  case round =>
    obtain ⟨k, hk, rfl, HR⟩ := hrel
    have HG := Lib.hid HR.out.grown
    by_cases hlt : k < rs.length
    · have h0 := List.getElem?_eq_getElem hlt
      obtain ⟨b, off, cv, rfl, h1, h2, h3⟩ := (HC.out k _ h0).kept HG.out
      obtain ⟨pv, vcap, rfl, hvl, hvc⟩ := h3
      have h3 : IntsAt wr (.slice pv (rs[k]).2.length vcap) (rs[k]).2 := ⟨pv, vcap, rfl, hvl, hvc⟩
      have HT := Lib.hid (show (valsOf rs pt).take (k + 1) = (valsOf rs pt).take k ++ [rowVal rs[k] pt] by rw [List.take_succ_eq_append_getElem (by rw [HVl.out]; exact hlt)]; simp [valsOf])
      have HV := Lib.hid (fun W (hg : wr.grownBy W none) => rowValue_any n rs[k] (.slice pv (rs[k]).2.length vcap) (.slice (some ⟨Bb, 0, none⟩) n n) pt W (HG0.out _ (List.getElem_mem hlt)) (by omega) (h3.kept hg) (HX.out.kept (grownBy_trans HG.out hg)) HL.out HB.out)
      have HK := Lib.hid (show ((valsOf rs pt).take k).length = k by rw [List.length_take, HVl.out]; omega)
      generalize rowVal rs[k] pt = z at *
      generalize hc : (rs[k]).1 = c at *
      generalize hcl : (rs[k]).2.length = vl at *
      clear h0 h3 hc hcl hvl hvc
      go_wp2_with (first | (go_at_call 38; refine (HV.out _ (World.grownBy_alloc _ _ _)).mono ?_; rintro e w' ⟨rfl, hg1⟩; have HR2 := Lib.hid (HR.out.kept (grownBy_trans (World.grownBy_alloc _ _ _) hg1)); obtain ⟨x0, ca, cf⟩ := HR2.out.cell (by rw [HK.out]; omega) (show k < 8 by omega); clear hg1))
      go_roundw
      case rel => exact ⟨k + 1, by omega, by go_num, by rw [HT.out]; have := HR2.out.set (z := z) (by rw [HK.out]; omega); rw [HK.out] at this; exact this⟩
      case measure => simp [intOf]; omega
    · obtain rfl : k = rs.length := by omega
      have hR := HR.out
      rw [List.take_of_length_le (by rw [HVl.out]; exact Nat.le_refl _)] at hR
      have HRR := Lib.hid hR
      obtain ⟨a0, a1, a2, a3, a4, a5, a6, a7, he⟩ := pad_eight (xs := valsOf rs pt) (by rw [HVl.out]; exact hrs)
      obtain ⟨c0, c1, c2, c3, c4, c5, c6, c7⟩ := hR.eight he
      obtain ⟨D, hD1, hD2⟩ := HI.out.seen
      have hD3 : SeenAt wr _ _ D := World.ownsMap.kept hD1 HG.out (by simp)
      have hlook := SeenAt.look hD3 hD2 hrs HVl.out HW.out
      rw [he] at hlook
      simp only [List.map_cons, List.map_nil] at hlook
      have v0r := HG.out.cell v0 (by simp)
      have v1r := HG.out.cell v1 (by simp)
      have v2r := HG.out.cell v2 (by simp)
      by_cases hin : valsOf rs pt ∈ distL rs d
      · have HN := Lib.hid (show distL rs (d ++ [pt]) = distL rs d by rw [distL_snoc]; exact if_pos hin)
        rw [decide_eq_true hin] at hlook
        clear hR hD1 hD2 hD3 hin he
        go_wp2
        go_ret
        refine ⟨ret_bool (by simp [goProj, HN.out]), HS.out.framed.grown HG.out, HS.out.lo, HS.out.hi, heap_keep HS.out.buf HG.out (by simp), HS.out.len, ?_⟩
        have := HI.out.keep HG.out (by simp)
        obtain ⟨q1, q2, q3, q4, q5⟩ := this
        exact ⟨q1, q2, q3, by rw [HN.out]; exact q4, by rw [HN.out]; exact q5⟩
      · have HN := Lib.hid (show distL rs (d ++ [pt]) = distL rs d ++ [valsOf rs pt] by rw [distL_snoc]; exact if_neg hin)
        have HD2 := Lib.hid (seenD_step hrs hD2 HVl.out HW.out hin)
        obtain ⟨w2, hrun, hD4, hg2⟩ := SeenAt.enter hD3 (by have := HD.out; unfold maxLen; omega) hrs HVl.out HW.out
        rw [he] at hrun
        simp only [List.map_cons, List.map_nil] at hrun
        rw [decide_eq_false hin] at hlook
        have HD4 := Lib.hid hD4
        have HG2 := Lib.hid hg2
        have v0s := hg2.cell v0r (by simp)
        have v2s := hg2.cell v2r (by simp)
        unfold fvPro at v2s
        have HVs := Lib.hid (fun j x (hj : (valsOf rs pt)[j]? = some x) => hg2.cell (hR.vals j x hj) (by have := HS.out.framed.size; simp; omega))
        have HCl := Lib.hid (fun W (hg : w2.grownBy W none) => clone_any w.heap.size 0 8 (valsOf rs pt) W (by rw [HVl.out]; omega) (fun j x hj => hg.cell (HVs.out j x hj) (by simp)))
        rw [HVl.out] at HCl
        have hlo0 := HS.out.lo
        have hBw := (Array.getElem?_eq_some_iff.1 HS.out.buf).1
        have hBr := HG.out.size
        have hB2 := hg2.size
        have HLs := Lib.hid (list_keep (list_keep HI.out.list HG.out (by simp)) hg2 (fun k hk => by cases hk; omega))
        have hI8 : (rs.length : Int) ≤ 8 := by omega
        have hI0 : (0 : Int) ≤ (rs.length : Int) := by omega
        clear hR hD1 hD2 hD3 hin he hD4 hg2
        go_wp2
        go_region_law (first
          | (go_simp; go_at_call 79; go_must (refine (HCl.out _ (by first | exact grownBy_refl _ _ | exact grown_d _ _)).mono ?_; rintro e w3 ⟨cv, rfl, hown, hg3z⟩; have hg3 : w2.grownBy w3 none := (by first | exact hg3z | exact grownBy_trans (grown_d w2 none) hg3z); have HG3 := Lib.hid hg3; obtain ⟨rp, rcap, hcv⟩ := own_form hown; rw [HVl.out] at hcv; subst hcv; have KO := Lib.hid (owns_lowP (base' := Bb + 1) hown (by first | omega | (simp; omega))); have KB := Lib.hid (fun b (hb : (Value.slice rp rs.length rcap).ownBlock = some b) => show w2.heap.size ≤ b from (hown.lt b hb).1); have v2t := hg3.cell v2s (by simp); have v0t := hg3.cell v0s (by simp); clear hown hg3 hg3z))
          | (go_simp; go_at_call 47; go_must (refine (proj1_any V Bb (distL rs d) (valsOf rs pt) rp rs.length rcap w2 _ (by omega) (by omega) HLs.out HD.out (by first | exact HG3.out | exact grownBy_trans HG3.out (grown_d _ none)) KO.out KB.out).mono ?_; rintro e w4 ⟨rfl, hi4, r4, wm, hg4, hr4, hg5⟩; have HG4 := Lib.hid hg4; have HR4 := Lib.hid hr4; have HG5 := Lib.hid hg5; have HI4 := Lib.hid hi4; clear hg4 hr4 hg5 hi4)))
        all_goals go_wp2
        all_goals go_ret
        all_goals
          have hfs := HS.out.framed.size
          have hlo := HS.out.lo
          have hhi := HS.out.hi
          have k1 : ∀ {k : Nat} {o : Obj}, w.heap[k]? = some o → k ≠ V + 1 + 1 + 1 + 1 → k ≠ V → k ≤ Bb → w4.heap[k]? = some o := fun hk h1 h2 h3 => heap_keep (heap_keep (heap_keep (heap_keep (heap_keep hk HG.out (by simp)) HG2.out (by simp; omega)) HG3.out (by simp)) HG4.out (fun e => by have := HR4.out _ e; omega)) HG5.out (by simp; omega)
          refine ⟨ret_bool (by simp [goProj, HN.out]), ((((HS.out.framed.grown HG.out).more HG2.out (fun k hk => by cases hk; exact .inr ⟨by omega, by omega⟩)).grown HG3.out).more HG4.out (fun k hk => .inl (by have := HR4.out k hk; omega))).more HG5.out (fun k hk => by cases hk; exact .inr ⟨by omega, by omega⟩), HS.out.lo, HS.out.hi, k1 HS.out.buf (by omega) (by omega) (by omega), HS.out.len, ?_⟩
          refine ⟨k1 HI.out.rows (by omega) (by omega) (by omega), k1 HI.out.fn (by omega) (by omega) (by omega), k1 HI.out.box (by omega) (by omega) (by omega), ⟨_, ?_, by rw [HN.out]; exact HD2.out⟩, ?_⟩
          · rw [HN.out, List.length_append, List.length_singleton]
            exact World.ownsMap.kept (World.ownsMap.kept (World.ownsMap.kept HD4.out HG3.out (by simp)) HG4.out (fun e => by have := HR4.out _ e.symm; omega)) HG5.out (by simp; omega)
          · rw [HN.out]
            exact HI4.out

end Go.Proofs.YtfilcaolgfghcaaGreat
