/-
 Grow of nothing, and Concat, at rows. Grow of nothing, and Concat, at sides. Rows with what room they have; rows that a call collects. Are numbers equal; the first row with these coefficients. The first row with these coefficients.
-/
import Derived.Lib.AppendZerosOnto
import Derived.Laws.OwnMore
import Derived.Deep.DeepMust
import Derived.Test.YtgeklmigfhhpfaaGreatDoorQ04
import Derived.Test.YtgeklmigfhhpfaaGreatDoorQ15
namespace Go.Proofs.YtgeklmigfhhpfaaGreatDoor
open Go.RowKit
attribute [local go_sem ↓] Go.wp_at_zero Go.wp_at_succ
set_option maxRecDepth 100000 in
set_option maxHeartbeats 2000000 in
theorem growRows_any (n : Nat) (w : World) (hn : n ≤ 1000000) :
  Calls Tryz.prog 93 #[.slice none 0 0, .int .i64 n] w (Grown 86 2 n w) := by
 obtain ⟨i0, hi, hz0, hz1, hz2⟩ := info_parts Tryz.infoRow
 by_cases h0 : n = 0
 · subst h0
   go_enter Tryz.func93, Tryz.ntmps93
   go_wp2
   go_ret
   exact ⟨none, 0, rfl, Nat.le_refl _, World.ownsRow_nil _ _ _ _, gR _ _⟩
 · have h1 : ¬ ((n : Int) < 0) := by omega
   have h2 : wrap64 ((0 : Int) - 0) = 0 := by unfold wrap64; omega
   have h3 : wrap64 ((n : Int) - 0) = n := by unfold wrap64; omega
   have h4 : (n : Int) > 0 := by omega
   have hrz : ∀ ty, (Builtin.append_ #[79, 3] ty #[.slice none 0 0, .int .i64 (n : Int)]).run Tryz.prog w =
     .ok (.slice (some ⟨w.heap.size, 0, none⟩) n (grownCap w n 0 86)) (w.drew.alloc (.cells (#[] ++ Builtin.zeroCells (Value.cells (.agg #[.int .i64 0, .slice none 0 0])) n ++ Builtin.zeroCells (Value.cells (.agg #[.int .i64 0, .slice none 0 0])) (grownCap w n 0 86 - n)) 86)) := fun ty => by
    have h := Lib.run_append_grow_zeros (P := Tryz.prog) w 79 3 ty 86 i0 (.agg #[.int .i64 0, .slice none 0 0]) .i64 .i64 Tryz.underlying79 Tryz.underlying3 hi hz0 none 0 0 [] (run_firstCells_none w.drew i0.size 0 0 0) n (by omega) (by rw [hz1]; decide) (by omega) (by omega)
     (by rw [hz2]; omega) (growslice_fits (by omega) (by rw [hz2]; omega))
    rw [Nat.zero_add] at h
    exact h
   have hG := grownCap_ge w n 0 86
   have hG63 := grownCap_le_maxLen w n 0 86 (by unfold maxLen; omega)
   generalize grownCap w n 0 86 = G at *
   have hG2 : G ≤ 9223372036854775807 := by unfold maxLen at hG63; omega
   clear hi
   go_enter Tryz.func93, Tryz.ntmps93
   go_wp2_with (at_builtin; refine Lib.wpList_append_run _ rfl _ _ _ _ rfl _ _ rfl rfl _ _ (hrz _) ?_)
   go_ret
   refine ⟨_, G, rfl, hG, World.ownsRow_made (base := w.heap.size) w.drew _ G (Nat.le_refl _) hG63 ?_, gT (gD _ none) (gA _ _ none)⟩
   simp [Builtin.zeroCells]
   omega
set_option maxRecDepth 100000 in
set_option maxHeartbeats 4000000 in
theorem concatRows_any (l : List (Nat × List Value)) (b cap : Nat) (vs : List Value) (w : World) (hl : l.length ≤ 1000) (hvl : vs.length = l.length) (hT : lens l ≤ 1000000) (hv : ∀ (j : Nat) (v : Value), vs[j]? = some v → w.cell? ⟨b, j, none⟩ = some v)
  (hp : ∀ (j : Nat) (v : Value) (q : Nat × List Value), vs[j]? = some v → l[j]? = some q → PartAt w v 2 q) :
  Calls Tryz.prog 44 #[.slice (some ⟨b, 0, none⟩) l.length cap] w (Joined 86 2 l w) := by
 obtain ⟨i0, hi, hz0, hz1, hz2⟩ := info_parts Tryz.infoRow
 have HV := uH hv
 have HP := uH hp
 have HL := uH hvl
 clear hv hp hvl
 have hpart : ∀ k, k < l.length → ∃ v q, l[k]? = some q ∧ Hid (PartAt w v 2 q) ∧ w.cell? ⟨b, k, none⟩ = some v := by
  intro k hk
  have h1 := List.getElem?_eq_getElem hk
  have h2 : vs[k]? = some (vs[k]'(by rw [HL.out]; exact hk)) := List.getElem?_eq_getElem _
  exact ⟨_, _, h1, HP.out k _ _ h2 h1, HV.out k _ h2⟩
 have HQ := uH hpart
 clear hpart
 go_enter Tryz.func44, Tryz.ntmps44
 go_wp2
 go_loopw [11, 3] (fun i s wr => ∃ k : Nat, k ≤ l.length ∧ i = .int .i64 k ∧ s = .int .i64 (lens (l.take k)) ∧ w = wr) (fun i _ _ => l.length - (intOf i).toNat)
 case atStart => exact ⟨0, Nat.zero_le _, rfl, rfl, rfl⟩
 case round =>
  obtain ⟨k, hk, rfl, rfl, rfl⟩ := hrel
  by_cases hlt : k < l.length
  · obtain ⟨v, ⟨n, xs⟩, e2, hpt, hcell⟩ := HQ.out k hlt
    have hle := lens_take l (k + 1)
    have hn := hpt.out.len
    obtain ⟨p, c, rfl, _⟩ := id hpt.out
    simp only at hcell hn
    have hnx : lens (l.take (k + 1)) = lens (l.take k) + n := by rw [List.take_add_one, e2]; simp [lens]
    have hw1 : wrap64 ((lens (l.take k) : Int) + (n : Int)) = ((lens (l.take (k + 1)) : Nat) : Int) := by rw [hnx]; unfold wrap64; omega
    have hng : ¬ (((lens (l.take (k + 1)) : Nat) : Int) < 0) := by omega
    have hI1 : (k : Int) < (l.length : Int) := by omega
    generalize lens (l.take k) = m at *
    obtain ⟨m2, hm2⟩ : ∃ m2, m2 = lens (l.take (k + 1)) := ⟨_, rfl⟩
    rw [← hm2] at hle hnx hw1 hng
    have HM2 := uH hm2
    clear hm2
    clear hle e2
    go_wp2
    go_roundw
    case rel => exact ⟨k + 1, by omega, by go_num, by rw [hw1, HM2.out], trivial⟩
    case measure => simp [intOf]; omega
  · obtain rfl : k = l.length := by omega
    rw [List.take_length]
    go_wp2_with (go_at_call 93; go_must (refine (growRows_any (lens l) _ hT).mono ?_; rintro e w1 ⟨p1, cap1, rfl, hcap, ho, hg⟩; have HO := uH ho; have HG := uH hg; clear ho hg))
    go_wp2
    go_loopw [27, 6] (fun i s wr => ∃ (k : Nat) (v0 : Value) (n : Nat), k ≤ l.length ∧ i = .int .i64 k ∧ s = v0 ∧ Hid (wr.ownsRow w.heap.size 86 2 v0 n ((l.take k).flatMap (·.2))) ∧ Hid (n = lens (l.take k)) ∧ Hid (w.grownBy wr none)) (fun i _ _ => l.length - (intOf i).toNat)
    case atStart => exact ⟨0, _, 0, Nat.zero_le _, rfl, rfl, HO.out, rfl, HG.out⟩
    case round =>
     obtain ⟨k, v0, n0, hk, rfl, rfl, HO, HN, HG⟩ := hrel
     by_cases hlt : k < l.length
     · obtain ⟨v, ⟨n, xs⟩, e2, hpt, hcell⟩ := HQ.out k hlt
       have hle := lens_take l (k + 1)
       have hnx : lens (l.take (k + 1)) = lens (l.take k) + n := by rw [List.take_add_one, e2]; simp [lens]
       have hfx : (l.take (k + 1)).flatMap (·.2) = (l.take k).flatMap (·.2) ++ xs := by rw [List.take_add_one, e2]; simp
       have HNX := uH hnx
       have HFX := uH hfx
       have hn0 : Hid (n0 + n ≤ 1000000) := by have := HN.out; show _ ≤ _; omega
       have hI1 : (k : Int) < (l.length : Int) := by omega
       have hcell' := HG.out.cell hcell (by simp)
       obtain ⟨v', w', hr, ho, hg⟩ := append_part (P := Tryz.prog) wr w.heap.size 79 79 86 i0 (.agg #[.int .i64 0, .slice none 0 0]) 2 32 Tryz.underlying79 hi hz0 hz1 hz2 rfl (by decide) (by decide) _ n0 _ HO.out v (n, xs) (hpt.out.kept HG.out) hn0.out HG.out.size
       have HR := uH hr
       have HO' := uH ho
       have HG' := uH hg
       clear hle hnx hfx e2 hcell hpt hr ho hg
       go_wp2_with (at_builtin; go_must (refine Lib.wpList_append_run _ rfl _ _ _ _ rfl _ _ rfl rfl _ _ HR.out ?_))
       go_roundw
       case rel => exact ⟨k + 1, v', n0 + n, by omega, by go_num, rfl, by show World.ownsRow _ _ _ _ _ _ _; rw [HFX.out]; exact HO'.out, by show _ = _; rw [HNX.out, HN.out], gO HG.out HG'.out (fun i hi => (HO.out.lt i hi).1)⟩
       case measure => simp [intOf]; omega
     · obtain rfl : k = l.length := by omega
       have HO2 : Hid (wr.ownsRow w.heap.size 86 2 u6 n0 (l.flatMap (·.2))) := by
        have h := HO.out
        rwa [List.take_length] at h
       have hN : n0 = lens l := by
        have h := HN.out
        rwa [List.take_length] at h
       subst hN
       clear HN
       go_wp2
       go_ret
       exact ⟨_, rfl, HO2.out, HG.out⟩
end Go.Proofs.YtgeklmigfhhpfaaGreatDoor
namespace Go.Proofs.YtgeklmigfhhpfaaGreatDoor
open Go.RowKit
attribute [local go_sem ↓] Go.wp_at_zero Go.wp_at_succ
set_option maxRecDepth 100000 in
set_option maxHeartbeats 2000000 in
theorem growSides_any (n : Nat) (w : World) (hn : n ≤ 1000000) :
  Calls Tryz.prog 137 #[.slice none 0 0, .int .i64 n] w (Grown 63 3 n w) := by
 obtain ⟨i0, hi, hz0, hz1, hz2⟩ := info_parts Tryz.infoSide
 by_cases h0 : n = 0
 · subst h0
   go_enter Tryz.func137, Tryz.ntmps137
   go_wp2
   go_ret
   exact ⟨none, 0, rfl, Nat.le_refl _, World.ownsRow_nil _ _ _ _, gR _ _⟩
 · have h1 : ¬ ((n : Int) < 0) := by omega
   have h2 : wrap64 ((0 : Int) - 0) = 0 := by unfold wrap64; omega
   have h3 : wrap64 ((n : Int) - 0) = n := by unfold wrap64; omega
   have h4 : (n : Int) > 0 := by omega
   have hrz : ∀ ty, (Builtin.append_ #[26, 3] ty #[.slice none 0 0, .int .i64 (n : Int)]).run Tryz.prog w =
     .ok (.slice (some ⟨w.heap.size, 0, none⟩) n (grownCap w n 0 63)) (w.drew.alloc (.cells (#[] ++ Builtin.zeroCells (Value.cells (.agg #[.string ByteArray.empty, .int .i64 0, .int .i64 0])) n ++ Builtin.zeroCells (Value.cells (.agg #[.string ByteArray.empty, .int .i64 0, .int .i64 0])) (grownCap w n 0 63 - n)) 63)) := fun ty => by
    have h := Lib.run_append_grow_zeros (P := Tryz.prog) w 26 3 ty 63 i0 (.agg #[.string ByteArray.empty, .int .i64 0, .int .i64 0]) .i64 .i64 Tryz.underlying26 Tryz.underlying3 hi hz0 none 0 0 [] (run_firstCells_none w.drew i0.size 0 0 0) n (by omega) (by rw [hz1]; decide) (by omega) (by omega)
     (by rw [hz2]; omega) (growslice_fits (by omega) (by rw [hz2]; omega))
    rw [Nat.zero_add] at h
    exact h
   have hG := grownCap_ge w n 0 63
   have hG63 := grownCap_le_maxLen w n 0 63 (by unfold maxLen; omega)
   generalize grownCap w n 0 63 = G at *
   have hG2 : G ≤ 9223372036854775807 := by unfold maxLen at hG63; omega
   clear hi
   go_enter Tryz.func137, Tryz.ntmps137
   go_wp2_with (at_builtin; refine Lib.wpList_append_run _ rfl _ _ _ _ rfl _ _ rfl rfl _ _ (hrz _) ?_)
   go_ret
   refine ⟨_, G, rfl, hG, World.ownsRow_made (base := w.heap.size) w.drew _ G (Nat.le_refl _) hG63 ?_, gT (gD _ none) (gA _ _ none)⟩
   simp [Builtin.zeroCells]
   omega
set_option maxRecDepth 100000 in
set_option maxHeartbeats 4000000 in
theorem concatSides_any (l : List (Nat × List Value)) (b cap : Nat) (vs : List Value) (w : World) (hl : l.length ≤ 1000) (hvl : vs.length = l.length) (hT : lens l ≤ 1000000) (hv : ∀ (j : Nat) (v : Value), vs[j]? = some v → w.cell? ⟨b, j, none⟩ = some v)
  (hp : ∀ (j : Nat) (v : Value) (q : Nat × List Value), vs[j]? = some v → l[j]? = some q → PartAt w v 3 q) :
  Calls Tryz.prog 106 #[.slice (some ⟨b, 0, none⟩) l.length cap] w (Joined 63 3 l w) := by
 obtain ⟨i0, hi, hz0, hz1, hz2⟩ := info_parts Tryz.infoSide
 have HV := uH hv
 have HP := uH hp
 have HL := uH hvl
 clear hv hp hvl
 have hpart : ∀ k, k < l.length → ∃ v q, l[k]? = some q ∧ Hid (PartAt w v 3 q) ∧ w.cell? ⟨b, k, none⟩ = some v := by
  intro k hk
  have h1 := List.getElem?_eq_getElem hk
  have h2 : vs[k]? = some (vs[k]'(by rw [HL.out]; exact hk)) := List.getElem?_eq_getElem _
  exact ⟨_, _, h1, HP.out k _ _ h2 h1, HV.out k _ h2⟩
 have HQ := uH hpart
 clear hpart
 go_enter Tryz.func106, Tryz.ntmps106
 go_wp2
 go_loopw [11, 3] (fun i s wr => ∃ k : Nat, k ≤ l.length ∧ i = .int .i64 k ∧ s = .int .i64 (lens (l.take k)) ∧ w = wr) (fun i _ _ => l.length - (intOf i).toNat)
 case atStart => exact ⟨0, Nat.zero_le _, rfl, rfl, rfl⟩
 case round =>
  obtain ⟨k, hk, rfl, rfl, rfl⟩ := hrel
  by_cases hlt : k < l.length
  · obtain ⟨v, ⟨n, xs⟩, e2, hpt, hcell⟩ := HQ.out k hlt
    have hle := lens_take l (k + 1)
    have hn := hpt.out.len
    obtain ⟨p, c, rfl, _⟩ := id hpt.out
    simp only at hcell hn
    have hnx : lens (l.take (k + 1)) = lens (l.take k) + n := by rw [List.take_add_one, e2]; simp [lens]
    have hw1 : wrap64 ((lens (l.take k) : Int) + (n : Int)) = ((lens (l.take (k + 1)) : Nat) : Int) := by rw [hnx]; unfold wrap64; omega
    have hng : ¬ (((lens (l.take (k + 1)) : Nat) : Int) < 0) := by omega
    have hI1 : (k : Int) < (l.length : Int) := by omega
    generalize lens (l.take k) = m at *
    obtain ⟨m2, hm2⟩ : ∃ m2, m2 = lens (l.take (k + 1)) := ⟨_, rfl⟩
    rw [← hm2] at hle hnx hw1 hng
    have HM2 := uH hm2
    clear hm2
    clear hle e2
    go_wp2
    go_roundw
    case rel => exact ⟨k + 1, by omega, by go_num, by rw [hw1, HM2.out], trivial⟩
    case measure => simp [intOf]; omega
  · obtain rfl : k = l.length := by omega
    rw [List.take_length]
    go_wp2_with (go_at_call 137; go_must (refine (growSides_any (lens l) _ hT).mono ?_; rintro e w1 ⟨p1, cap1, rfl, hcap, ho, hg⟩; have HO := uH ho; have HG := uH hg; clear ho hg))
    go_wp2
    go_loopw [27, 6] (fun i s wr => ∃ (k : Nat) (v0 : Value) (n : Nat), k ≤ l.length ∧ i = .int .i64 k ∧ s = v0 ∧ Hid (wr.ownsRow w.heap.size 63 3 v0 n ((l.take k).flatMap (·.2))) ∧ Hid (n = lens (l.take k)) ∧ Hid (w.grownBy wr none)) (fun i _ _ => l.length - (intOf i).toNat)
    case atStart => exact ⟨0, _, 0, Nat.zero_le _, rfl, rfl, HO.out, rfl, HG.out⟩
    case round =>
     obtain ⟨k, v0, n0, hk, rfl, rfl, HO, HN, HG⟩ := hrel
     by_cases hlt : k < l.length
     · obtain ⟨v, ⟨n, xs⟩, e2, hpt, hcell⟩ := HQ.out k hlt
       have hle := lens_take l (k + 1)
       have hnx : lens (l.take (k + 1)) = lens (l.take k) + n := by rw [List.take_add_one, e2]; simp [lens]
       have hfx : (l.take (k + 1)).flatMap (·.2) = (l.take k).flatMap (·.2) ++ xs := by rw [List.take_add_one, e2]; simp
       have HNX := uH hnx
       have HFX := uH hfx
       have hn0 : Hid (n0 + n ≤ 1000000) := by have := HN.out; show _ ≤ _; omega
       have hI1 : (k : Int) < (l.length : Int) := by omega
       have hcell' := HG.out.cell hcell (by simp)
       obtain ⟨v', w', hr, ho, hg⟩ := append_part (P := Tryz.prog) wr w.heap.size 26 26 63 i0 (.agg #[.string ByteArray.empty, .int .i64 0, .int .i64 0]) 3 32 Tryz.underlying26 hi hz0 hz1 hz2 rfl (by decide) (by decide) _ n0 _ HO.out v (n, xs) (hpt.out.kept HG.out) hn0.out HG.out.size
       have HR := uH hr
       have HO' := uH ho
       have HG' := uH hg
       clear hle hnx hfx e2 hcell hpt hr ho hg
       go_wp2_with (at_builtin; go_must (refine Lib.wpList_append_run _ rfl _ _ _ _ rfl _ _ rfl rfl _ _ HR.out ?_))
       go_roundw
       case rel => exact ⟨k + 1, v', n0 + n, by omega, by go_num, rfl, by show World.ownsRow _ _ _ _ _ _ _; rw [HFX.out]; exact HO'.out, by show _ = _; rw [HNX.out, HN.out], gO HG.out HG'.out (fun i hi => (HO.out.lt i hi).1)⟩
       case measure => simp [intOf]; omega
     · obtain rfl : k = l.length := by omega
       have HO2 : Hid (wr.ownsRow w.heap.size 63 3 u6 n0 (l.flatMap (·.2))) := by
        have h := HO.out
        rwa [List.take_length] at h
       have hN : n0 = lens l := by
        have h := HN.out
        rwa [List.take_length] at h
       subst hN
       clear HN
       go_wp2
       go_ret
       exact ⟨_, rfl, HO2.out, HG.out⟩
end Go.Proofs.YtgeklmigfhhpfaaGreatDoor
namespace Go.Proofs.YtgeklmigfhhpfaaGreatDoor
open Go.RowKit
attribute [local go_sem ↓] Go.wp_at_zero Go.wp_at_succ
structure RowsIn (w : World) (p : Option Addr) (cap : Nat) (l : List RowD) (K : Prop) : Prop where
 len : l.length ≤ 1000000
 room : l.length ≤ cap
 nil : p = none → cap = 0
 cells : ∀ (j : Nat) (r : RowD), l[j]? = some r → ∃ b off pc cc, p = some ⟨b, off, none⟩ ∧ w.cell? ⟨b, off + j * 2, none⟩ = some (.int .i64 r.1) ∧ w.cell? ⟨b, off + j * 2 + 1, none⟩ = some (.slice pc r.2.length cc) ∧ (K → r.2.length ≤ cc) ∧ IntsAt w (.slice pc r.2.length cc) r.2
def RowLC (w : World) (v : Value) (l : List RowD) (K : Prop) : Prop := ∃ p cap, v = .slice p l.length cap ∧ RowsIn w p cap l K
theorem RowLC.kept {w w' : World} {v : Value} {l : List RowD} {K : Prop} (h : RowLC w v l K) (hg : w.grownBy w' none) : RowLC w' v l K := by
 obtain ⟨p, cap, hv, h⟩ := h
 refine ⟨p, cap, hv, h.len, h.room, h.nil, fun j r hj => ?_⟩
 obtain ⟨b, off, pc, cc, h1, h2, h3, h4, h5⟩ := h.cells j r hj
 exact ⟨b, off, pc, cc, h1, hg.cell h2 (by simp), hg.cell h3 (by simp), h4, h5.kept hg⟩
theorem RowLC.rows {w : World} {v : Value} {l : List RowD} {K : Prop} (h : RowLC w v l K) : RowLAt w v l := by
 obtain ⟨p, cap, hv, h⟩ := h
 refine ⟨p, cap, hv, h.len, fun j r hj => ?_⟩
 obtain ⟨b, off, pc, cc, h1, h2, h3, _, h5⟩ := h.cells j r hj
 exact ⟨b, off, _, h1, h2, h3, h5⟩
theorem own_nil {w : World} {base : Nat} {e : TypeId} {size : Nat} {cap n : Nat} {xs : List Value} (h : w.ownsRow base e size (.slice none n cap) n xs) : cap = 0 := by
 rcases h.2 with ⟨h, _⟩ | ⟨g, c, cur, h, _⟩
 · exact (Value.slice.inj h).2.2
 · cases (Value.slice.inj h).1
structure RW (w : World) (P : Nat) (kv : Value) (rs : List RowD) (cvs : List Value) (K : Prop) : Prop where
 len : cvs.length = rs.length
 row : w.ownsRow P 86 2 kv rs.length ((rs.zip cvs).flatMap rowCells)
 coefs : ∀ (j : Nat) (q : RowD) (cv : Value), rs[j]? = some q → cvs[j]? = some cv → ∃ p cap, cv = .slice p q.2.length cap ∧ (K → q.2.length ≤ cap) ∧ ∀ w2, w.grownBy w2 kv.ownBlock → IntsAt w2 cv q.2
theorem RW.start (w : World) (P : Nat) (K : Prop) : RW w P (.slice none 0 0) [] [] K := ⟨rfl, World.ownsRow_nil _ _ _ _, fun j f tv h => by simp at h⟩
theorem RW.kept {w w' : World} {P : Nat} {kv : Value} {rs : List RowD} {cvs : List Value} {K : Prop} (h : RW w P kv rs cvs K) (hg : w.grownBy w' none) : RW w' P kv rs cvs K :=
 ⟨h.len, owns_kept h.row hg, fun j q cv h1 h2 => by
   obtain ⟨p, cap, e, hk, hs⟩ := h.coefs j q cv h1 h2
   exact ⟨p, cap, e, hk, fun w2 h2 => hs w2 (gT (grownBy_any _ hg) h2)⟩⟩
theorem RW.rowsIn {w : World} {P : Nat} {kv : Value} {rs : List RowD} {cvs : List Value} {K : Prop} (h : RW w P kv rs cvs K) (hl : rs.length ≤ 1000000) : RowLC w kv rs K := by
 obtain ⟨p, cap, rfl⟩ := own_form h.row
 refine ⟨p, cap, rfl, hl, own_cap h.row, fun e => ?_, fun j f hj => ?_⟩
 · subst e
   exact own_nil h.row
 · have hjl := (List.getElem?_eq_some_iff.1 hj).1
   have hjt : cvs[j]? = some (cvs[j]'(by rw [h.len]; exact hjl)) := List.getElem?_eq_getElem _
   generalize cvs[j]'(by rw [h.len]; exact hjl) = tv at hjt
   have hz : (rs.zip cvs)[j]? = some (f, tv) := by
    rw [List.getElem?_zip_eq_some]
    exact ⟨hj, hjt⟩
   obtain ⟨b, c1, e1, _, k1⟩ := own_cell h.row (flat_get (k := 2) (fun _ => rfl) hz (i := 0) (v := .int .i64 f.1) rfl)
   obtain ⟨b2, c2, e2, _, k2⟩ := own_cell h.row (flat_get (k := 2) (fun _ => rfl) hz (i := 1) (v := tv) rfl)
   obtain ⟨rfl, _, _⟩ := Value.slice.inj e1
   obtain ⟨ee, _, _⟩ := Value.slice.inj e2
   cases ee
   obtain ⟨pc, cc, rfl, d3, d4⟩ := h.coefs j f tv hj hjt
   exact ⟨b, 0, pc, cc, rfl, by simpa using k1, by simpa using k2, d3, d4 w (gR _ _)⟩
theorem grown_next {w w1 w2 w3 : World} {o : Option Nat} {g : Nat} (h1 : w.grownBy w1 none) (h2 : w1.grownBy w2 o) (hg : o = some g ∨ w1.heap.size ≤ g) (h3 : w2.grownBy w3 (some g)) : w.grownBy w3 o := by
 have h12 := gT (grownBy_any o h1) h2
 rcases hg with rfl | hg
 · exact gT h12 h3
 · have h0 := h1.size
   exact ⟨h3.os.trans h12.os, h3.tape.trans h12.tape, h3.output.trans h12.output, Nat.le_trans h12.size h3.size, fun k hk hn => (h3.block k (Nat.lt_of_lt_of_le hk h12.size) (fun e => by have e := Option.some.inj e; omega)).trans (h12.block k hk hn)⟩
theorem RW.push {w w1 w2 : World} {P g cap : Nat} {kv cv : Value} {rs : List RowD} {cvs : List Value} {K : Prop} {r : RowD} {o : Obj} (h : RW w P kv rs cvs K)
  (k1 : w.grownBy w1 none) (hcv : ∃ p cap, cv = .slice p r.2.length cap ∧ (K → r.2.length ≤ cap) ∧ ∀ w2, w1.grownBy w2 kv.ownBlock → IntsAt w2 cv r.2) (k2 : (w1.alloc o).grownBy w2 kv.ownBlock)
  (row : w2.ownsRow P 86 2 (.slice (some ⟨g, 0, none⟩) (rs.length + 1) cap) (rs.length + 1) ((rs.zip cvs).flatMap rowCells ++ rowCells (r, cv))) (hg : kv.ownBlock = some g ∨ w1.heap.size ≤ g) :
  RW w2 P (.slice (some ⟨g, 0, none⟩) (rs.length + 1) cap) (rs ++ [r]) (cvs ++ [cv]) K := by
 have k12 := gT (gA w1 o kv.ownBlock) k2
 refine ⟨by simp [h.len], ?_, fun j q cv' hj hcv' => ?_⟩
 · rw [List.length_append, List.zip_append (by rw [h.len]), List.flatMap_append]
   simpa using row
 · by_cases hj' : j < rs.length
   · rw [List.getElem?_append_left hj'] at hj
     rw [List.getElem?_append_left (by rw [h.len]; exact hj')] at hcv'
     obtain ⟨p, c, e, hk, hs⟩ := h.coefs j q cv' hj hcv'
     exact ⟨p, c, e, hk, fun w3 h3 => hs w3 (grown_next k1 k12 hg h3)⟩
   · have hj2 : j = rs.length := by
      have := (List.getElem?_eq_some_iff.1 hj).1
      simp at this
      omega
     subst hj2
     simp at hj
     subst hj
     rw [← h.len] at hcv'
     simp at hcv'
     subst hcv'
     obtain ⟨p, c, e, hk, hs⟩ := hcv
     exact ⟨p, c, e, hk, fun w3 h3 => hs w3 (grown_next (gR _ _) k12 hg h3)⟩
end Go.Proofs.YtgeklmigfhhpfaaGreatDoor
namespace Go.Proofs.YtgeklmigfhhpfaaGreatDoor
open Go.RowKit
attribute [local go_sem ↓] Go.wp_at_zero Go.wp_at_succ
def eqL (xs ys : List Int) : Bool := decide (xs = ys)
set_option maxRecDepth 100000 in
set_option maxHeartbeats 4000000 in
theorem equalInts_any (xs ys : List Int) (xv yv : Value) (w : World) (hx : IntsAt w xv xs) (hy : IntsAt w yv ys) :
  Calls Tryz.prog 61 #[xv, yv] w (Gives (.bool (eqL xs ys)) w) := by
 obtain ⟨px, cx, rfl, hxl, hxc⟩ := id hx
 obtain ⟨py, cy, rfl, hyl, hyc⟩ := id hy
 have HX := uH hxc
 have HY := uH hyc
 clear hx hy hxc hyc
 by_cases hl : xs.length = ys.length
 · have HL := uH hl
   have hl0 : ((xs.length : Int) != (ys.length : Int)) = false := by simp [hl]
   clear hl
   go_enter Tryz.func61, Tryz.ntmps61
   go_wp2
   go_loopw [13] (fun i wr => ∃ k : Nat, k ≤ xs.length ∧ i = .int .i64 k ∧ Hid (xs.take k = ys.take k) ∧ Hid (w.grownBy wr none)) (fun i _ => xs.length - (intOf i).toNat)
   case atStart => exact ⟨0, Nat.zero_le _, rfl, by show _ = _; rfl, gR _ _⟩
   case round =>
    obtain ⟨k, hk, rfl, HT, HG⟩ := hrel
    by_cases hlt : k < xs.length
    · have hlt2 : k < ys.length := by rw [← HL.out]; exact hlt
      have h0 := List.getElem?_eq_getElem hlt
      have h1 := List.getElem?_eq_getElem hlt2
      obtain ⟨bx, ox, rfl, hx1, c1⟩ := HX.out k _ h0
      obtain ⟨by_, oy, rfl, hy1, c2⟩ := HY.out k _ h1
      have c1 := HG.out.cell c1 (by simp)
      have c2 := HG.out.cell c2 (by simp)
      have HTx := uH (List.take_succ_eq_append_getElem hlt)
      have HTy := uH (List.take_succ_eq_append_getElem hlt2)
      have HNe : Hid (xs[k] ≠ ys[k] → xs ≠ ys) := fun h e => h (by subst e; rfl)
      generalize xs[k] = x at *
      generalize ys[k] = y at *
      have hI1 : (k : Int) < (xs.length : Int) := by omega
      have hI2 : (k : Int) < (ys.length : Int) := by omega
      clear h0 h1
      by_cases hxy : x = y
      · subst hxy
        have hb : (x != x) = false := by simp
        go_upto_region 6 with fail
        go_region_held3 (fun W => W.cell? ⟨bx, ox + k, none⟩ = some (.int .i64 x) ∧ W.cell? ⟨by_, oy + k, none⟩ = some (.int .i64 x)) (go_keep) (fail)
        all_goals
         go_wp2
         go_roundw
         case rel => exact ⟨k + 1, by omega, by go_num, by show _ = _; rw [HTx.out, HTy.out, HT.out], gT HG.out (gD _ none)⟩
         case measure => simp [intOf]; omega
      · have hb : (x != y) = true := by simp [hxy]
        have HF : Hid (eqL xs ys = false) := by unfold eqL; exact decide_eq_false (HNe.out hxy)
        go_upto_region 6 with fail
        go_region_held3 (fun W => W.cell? ⟨bx, ox + k, none⟩ = some (.int .i64 x) ∧ W.cell? ⟨by_, oy + k, none⟩ = some (.int .i64 y)) (go_keep) (fail)
        all_goals
         go_wp2
         go_ret
         exact ⟨ret_bool HF.out.symm, gT HG.out (gD _ none)⟩
    · obtain rfl : k = xs.length := by omega
      have HF : Hid (eqL xs ys = true) := by
       have h := HT.out
       rw [List.take_length, HL.out, List.take_length] at h
       unfold eqL
       exact decide_eq_true h
      go_wp2
      go_ret
      exact ⟨ret_bool HF.out.symm, HG.out⟩
 · have hl0 : ((xs.length : Int) != (ys.length : Int)) = true := by simp; omega
   have HF : Hid (eqL xs ys = false) := by unfold eqL; exact decide_eq_false (fun e => hl (by rw [e]))
   clear hl
   go_enter Tryz.func61, Tryz.ntmps61
   go_wp2
   go_ret
   exact ⟨ret_bool HF.out.symm, gR _ _⟩
end Go.Proofs.YtgeklmigfhhpfaaGreatDoor
namespace Go.Proofs.YtgeklmigfhhpfaaGreatDoor
open Go.RowKit
attribute [local go_sem ↓] Go.wp_at_zero Go.wp_at_succ
def sameCo (cs : List Int) (r : RowD) : Bool := eqL r.2 cs
set_option maxRecDepth 100000 in
set_option maxHeartbeats 1000000 in
theorem tight1_any (r : RowD) (rv : Value) (cs : List Int) (cv : Value) (B : Nat) (w : World) (hr : IntsAt w rv r.2) (hc : IntsAt w cv cs) (hb : w.cell? ⟨B, 1, none⟩ = some cv) :
  Calls Tryz.prog 103 #[.agg #[.int .i64 r.1, rv], .pointer (some ⟨B, 0, none⟩)] w (Gives (.bool (sameCo cs r)) w) := by
 have HR := uH hr
 have HC := uH hc
 obtain ⟨pr, cr, rfl, _⟩ := id hr
 obtain ⟨pc, cc, rfl, _⟩ := id hc
 have hga := gA w (.cells #[.int .i64 r.1, .slice pr r.2.length cr] 86) none
 have hb' := hga.cell hb (by simp)
 have HG := uH hga
 clear hr hc hga
 go_enter Tryz.func103, Tryz.ntmps103
 go_wp2_with (go_at_call 61; go_must (refine (equalInts_any r.2 cs _ _ _ (HR.out.kept HG.out) (HC.out.kept HG.out)).mono ?_; rintro e w' ⟨rfl, hg⟩; have HG2 := uH (gT HG.out hg); clear hg))
 go_ret
 exact ⟨rfl, HG2.out⟩
set_option maxRecDepth 100000 in
set_option maxHeartbeats 1000000 in
theorem indexRow_any (v : Value) (l : List RowD) (K : Prop) (cs : List Int) (cv : Value) (B : Nat) (w : World) (hl : RowLC w v l K) (hc : IntsAt w cv cs) (hb : w.cell? ⟨B, 1, none⟩ = some cv) :
  Calls Tryz.prog 102 #[v, .func (.func 103) #[] #[.pointer (some ⟨B, 0, none⟩)]] w (Gives (.int .i64 (firstI (sameCo cs) l)) w) := by
 obtain ⟨p, cap, rfl, h⟩ := hl
 have H := uH h
 have hlen := h.len
 have HC := uH hc
 have HB := uH hb
 clear h hc hb
 go_enter Tryz.func102, Tryz.ntmps102
 go_wp2
 go_loopw [8] (fun i wr => ∃ k : Nat, k ≤ l.length ∧ i = .int .i64 k ∧ Hid ((l.take k).any (sameCo cs) = false) ∧ Hid (w.grownBy wr none)) (fun i _ => l.length - (intOf i).toNat)
 case atStart => exact ⟨0, Nat.zero_le _, rfl, rfl, gR _ _⟩
 case round =>
  obtain ⟨k, hk, rfl, HR, HG⟩ := hrel
  by_cases hlt : k < l.length
  · have h0 := List.getElem?_eq_getElem hlt
    obtain ⟨b, off, pc, cc, rfl, c1, c2, _, hi⟩ := H.out.cells k _ h0
    have c1 := HG.out.cell c1 (by simp)
    have c2 := HG.out.cell c2 (by simp)
    have HS := uH (any_snoc (q := sameCo cs) h0)
    have HH := uH (fun hq => firstI_hit (q := sameCo cs) h0 HR.out hq)
    have HCl := uH (tight1_any _ _ cs cv B wr (hi.kept HG.out) (HC.out.kept HG.out) (HG.out.cell HB.out (by simp)))
    generalize l[k] = r at *
    have hI1 : (k : Int) < (l.length : Int) := by omega
    clear h0 hi
    cases he : sameCo cs r with
    | true =>
      rw [he] at HCl
      go_wp2_with (first | (go_at_call 103; go_must (refine HCl.out.mono ?_; rintro e w' ⟨rfl, hg1⟩; have G1 := uH hg1; clear hg1)))
      go_ret
      exact ⟨ret_i64 (HH.out he).symm, gT HG.out G1.out⟩
    | false =>
      rw [he] at HCl
      go_wp2_with (first | (go_at_call 103; go_must (refine HCl.out.mono ?_; rintro e w' ⟨rfl, hg1⟩; have G1 := uH hg1; clear hg1)))
      go_roundw
      case rel => exact ⟨k + 1, by omega, by go_num, by show _ = _; rw [HS.out, HR.out, he]; rfl, gT HG.out G1.out⟩
      case measure => simp [intOf]; omega
  · obtain rfl : k = l.length := by omega
    go_wp2
    go_ret
    exact ⟨ret_i64 (firstI_miss (by have := HR.out; rwa [List.take_length] at this)).symm, HG.out⟩
end Go.Proofs.YtgeklmigfhhpfaaGreatDoor
