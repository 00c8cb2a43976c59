/-
 ASet: a side that is odd.
-/
import Derived.Deep.RegionLaw
import Derived.Deep.DeepMust
import Derived.Test.YtgeklmigfhhpfaaGreatDoorQ12
import Derived.Test.YtgeklmigfhhpfaaGreatDoorQ35
namespace Go.Proofs.YtgeklmigfhhpfaaGreatDoor
open Go.RowKit
attribute [local go_sem ↓] Go.wp_at_zero Go.wp_at_succ
noncomputable def regionOf (n : Nat) : Code → Option Code
 | .region k ops b => if k = n then some (.region k ops b) else none
 | .loop c => regionOf n c
 | .seq a b => match regionOf n a with
   | some c => some c
   | none => regionOf n b
 | .block _ c => regionOf n c
 | .scope c => regionOf n c
 | .cond _ a b => match regionOf n a with
   | some c => some c
   | none => regionOf n b
 | _ => none
def blind (Qp : List PanicEntry → List Deferred → World → Prop) (Q : Exit → Act → World → Prop) : Exit → Act → World → Prop
 | .panic v, a, w => Qp v a.defers w
 | e, a, w => Q e a w
theorem wp_blindly {P : Program} {s : Code} {K : Act → World → Prop} {Q : Exit → Act → World → Prop} {a : Act} {w : World} (hb : ∀ v a b w, a.defers = b.defers → Q (.panic v) a w → Q (.panic v) b w) (h : s.wp P (Exit.then K (blind (fun v ds w => ∃ a, a.defers = ds ∧ Q (.panic v) a w) Q)) a w) : s.wp P (Exit.then K Q) a w := by
 refine wp_mono h ?_
 intro e a' w' hq
 cases e
 case panic v => obtain ⟨b, hb1, hb2⟩ := hq; exact hb _ _ _ _ hb1 hb2
 all_goals exact hq
noncomputable def setRegion (n : Nat) : Code := (Tryz.f4.body.bind (regionOf n)).getD .skip
set_option maxRecDepth 100000 in
set_option maxHeartbeats 40000000 in
theorem case0_region {B m M k j P : Nat} {w wN : World} {l : List SideD} {cs : List CondD} {tvs : List Value} {ps pc : Option Addr} {scap ccap : Nat} {K : Act → World → Prop} {Qp : List PanicEntry → List Deferred → World → Prop} {Q : Exit → Act → World → Prop} {u1 u2 u4 u5 u6 u7 u8 u9 u10 u11 u12 u13 u14 u15 u16 u17 u18 u19 u20 u21 u22 u23 u24 u25 u26 u27 u28 u29 u30 u31 u32 u33 u34 u35 u36 u37 u38 u39 u40 u41 u42 u43 u44 u45 u46 u47 u48 u49 u50 u51 u52 u53 u54 u55 u56 u57 u58 u59 u60 u61 u62 u63 u64 u65 u66 u67 u68 u69 u70 u71 u72 u73 u74 u75 u76 u77 u78 u79 u80 u81 u82 u83 u84 u85 u86 u87 u88 u89 u90 u91 u92 u93 u94 u95 u96 u97 u98 u99 u100 u101 u102 u103 u104 u105 u106 u107 u108 u109 u110 u111 u112 u113 u114 u115 u116 u117 u118 u119 u120 u121 u122 u123 u124 u125 u126 u127 u128 u129 : Value}
  (HLN : Hid (LSt B m w wN (.slice ps k scap) (.slice pc cs.length ccap))) (HON : Hid (wN.ownsRow (w.heap.size + 3) 63 3 (.slice ps k scap) k (l.flatMap sideCells))) (HCN : Hid (CSt wN P (.slice pc cs.length ccap) cs tvs))
  (hOA : ∀ b, (Value.slice ps k scap).ownBlock = some b → b < P) (HLen : Hid (l.length = k)) (HGd : Hid (∀ s ∈ l, goodSide s)) (HCl : Hid (cs.length = j)) (hj : j ≤ 3) (hA : w.heap.size + 3 ≤ P) (hP : P ≤ wN.heap.size) (hB : B < w.heap.size) (hn : k ≤ 3) (hm : m ≤ 2000000) (hM : m + 10 ≤ M)
  (hQ : ∀ (v93 v94 v95 v96 v97 v98 v99 v100 v101 v102 v103 v104 v105 v106 : Value) (w' : World), Hid (ReadyB B M w w') → K ⟨#[.pointer (some ⟨B, 0, none⟩), u1, u2, .pointer (some ⟨w.heap.size + 1, 0, none⟩), u4, u5, u6, u7, u8, u9, u10, u11, u12, u13, u14, u15, u16, u17, u18, u19, u20, u21, u22, u23, u24, u25, u26, u27, u28, u29, u30, u31, u32, u33, u34, u35, u36, u37, u38, u39, u40, u41, u42, u43, u44, u45, u46, u47, u48, u49, u50, u51, u52, u53, u54, u55, u56, u57, u58, u59, u60, u61, u62, u63, u64, u65, u66, u67, u68, u69, u70, u71, u72, u73, u74, u75, u76, u77, u78, u79, u80, u81, u82, u83, u84, u85, u86, u87, u88, u89, u90, u91, u92, v93, v94, v95, v96, v97, v98, v99, v100, v101, v102, v103, v104, v105, v106, u107, u108, u109, u110, u111, u112, u113, u114, u115, u116, u117, u118, u119, u120, u121, u122, u123, u124, u125, u126, u127, u128, u129], []⟩ w') :
  Code.wp Tryz.prog (setRegion 25) (Exit.then K (blind Qp Q)) ⟨#[.pointer (some ⟨B, 0, none⟩), u1, u2, .pointer (some ⟨w.heap.size + 1, 0, none⟩), u4, u5, u6, u7, u8, u9, u10, u11, u12, u13, u14, u15, u16, u17, u18, u19, u20, u21, u22, u23, u24, u25, u26, u27, u28, u29, u30, u31, u32, u33, u34, u35, u36, u37, u38, u39, u40, u41, u42, u43, u44, u45, u46, u47, u48, u49, u50, u51, u52, u53, u54, u55, u56, u57, u58, u59, u60, u61, u62, u63, u64, u65, u66, u67, u68, u69, u70, u71, u72, u73, u74, u75, u76, u77, u78, u79, u80, u81, u82, u83, u84, u85, u86, u87, u88, u89, u90, u91, u92, u93, u94, u95, u96, u97, u98, u99, u100, u101, u102, u103, u104, u105, u106, u107, u108, u109, u110, u111, u112, u113, u114, u115, u116, u117, u118, u119, u120, u121, u122, u123, u124, u125, u126, u127, u128, u129], []⟩ wN := by
 conv => arg 2; whnf
 have csN := HLN.out.cell0
 have ccN := HLN.out.cell1
 have fcN := HLN.out.free 1
 have HQ := uH hQ
 clear hQ
 obtain ⟨i0, hi, hz0, hz1, hz2⟩ := info_parts Tryz.infoSide
 have csNs := (gA wN (.cells #[.string ⟨#[105]⟩, .string ⟨#[]⟩, .string ⟨#[113]⟩] 9) none).cell csN (by simp)
 have csNi := (gA wN (.cells #[.int .i64 0, .int .i64 300000, .int .i64 1] 3) none).cell csN (by simp)
 have csNsi := (gA _ (.cells #[.int .i64 0, .int .i64 300000, .int .i64 1] 3) none).cell csNs (by simp)
 have csNis := (gA _ (.cells #[.string ⟨#[105]⟩, .string ⟨#[]⟩, .string ⟨#[113]⟩] 9) none).cell csNi (by simp)
 go_region_law (first
  | (go_simp; go_at_call 6; go_must (refine (some_from B m _ [⟨#[105]⟩, ⟨#[]⟩, ⟨#[113]⟩] wN _ (by first | exact grown_a2 _ _ _ | exact grown_a1 _ _ | exact gD _ _ | exact gA _ _ _ | exact gR _ _) HLN.out.drawn.2 (by omega) (by simp; omega) (by simp) (by simp) (fun j hj => by rcases (show j = 0 ∨ j = 1 ∨ j = 2 by simp at hj; omega) with rfl | rfl | rfl <;> simp)).mono ?_; rintro e wS ⟨zs, hz, rfl, hd, hd2⟩; have HLS := uH (HLN.out.draw hd); have HOS := uH (owns_drawn HON.out hd (by omega)); have HCS := uH (HCN.out.kept hd.1 (fun k hk => by cases hk; omega)); have csS := HLS.out.cell0; have csSi := (gA wS (.cells #[.int .i64 0, .int .i64 300000, .int .i64 1] 3) none).cell csS (by simp); have HZ := uH (show zs.size ≤ 100 by simp at hz; rcases hz with rfl | rfl | rfl <;> decide); have hszS := hd.1.size; have HKS := uH hd2; clear hd hz hd2))
  | (go_simp; go_at_call 32; go_must (refine (odd_from B (m + 1) (-5) 5 wS _ (by first | exact gR _ _ | exact gA _ _ _ | exact grown_a1 _ _ | exact gD _ _) HLS.out.drawn.2 (by omega) (by omega) (by omega) (by omega)).mono ?_; rintro e wO ⟨lo, hlo1, hlo2, rfl, hd, hd2⟩; have HLO := uH (HLS.out.draw hd); have HOO := uH (owns_drawn HOS.out hd (by omega)); have HCO := uH (HCS.out.kept hd.1 (fun k hk => by cases hk; omega)); have csO := HLO.out.cell0; have csOi := (gA wO (.cells #[.int .i64 0, .int .i64 300000, .int .i64 1] 3) none).cell csO (by simp); have hszO := hd.1.size; have HKO := uH hd2; clear hd hd2))
  | (go_simp; go_at_call 29; go_must (refine (pick_from B (m + 1 + 2) _ [0, 300000, 1] wO _ (by first | exact gR _ _ | exact gA _ _ _ | exact grown_a1 _ _ | exact gD _ _) HLO.out.drawn.2 (by omega) (by simp; omega) (by simp) (by simp) (fun j hj => by rcases (show j = 0 ∨ j = 1 ∨ j = 2 by simp at hj; omega) with rfl | rfl | rfl <;> first | (simp; done) | (refine HKO.out.cell (HKS.out.cell ?_ ?_) ?_ <;> (simp; try omega); done) | (refine HKO.out.cell ?_ ?_ <;> (simp; try omega); done))).mono ?_; rintro e wP ⟨z, hz, rfl, hd, _⟩; have HLP := uH (HLO.out.draw hd); have HOP := uH (owns_drawn HOO.out hd (by omega)); have HCP := uH (HCO.out.kept hd.1 (fun k hk => by cases hk; omega)); have csP := HLP.out.cell0; have HZ2 := uH (show z = 0 ∨ z = 300000 ∨ z = 1 by simpa using hz); have hszP := hd.1.size; have csPt := (gA wP (.cells #[.string zs, .int .i64 lo, .int .i64 z] 63) none).cell csP (by simp); clear hd hz))
  | (refine step_append_lies _ (by rfl) _ _ 26 (by rfl) (w.heap.size + 3) 63 i0 (.agg #[.string ByteArray.empty, .int .i64 0, .int .i64 0]) 3 32 Tryz.underlying26 hi hz0 hz1 hz2 (by rfl) (by decide) (.slice ps k scap) k (l.flatMap sideCells) (by rfl) (World.ownsRow.alloc HOP.out _) ⟨wP.heap.size, 0, none⟩ 1 1 (sideCells (zs, lo, z)) (by rfl) (by rfl) news_at (by simp [sideCells, Value.oneCell']) (by decide) (by unfold maxLen; omega) (by omega) (by simp; omega) (wP.heap.size + 1) (by simp) ?_; intro g ncap w4 hown4 hgrow4 hat _; have G4 := uH hgrow4; have HL4 := uH ((HLP.out.grown (gA _ _ none)).own hgrow4 (fun k hk => (HOP.out.lt k hk).1)); have c4 := HL4.out.cell0; have f4 := HL4.out.free 0; have O4 := uH hown4; clear hown4 hgrow4 hat))
 all_goals
  have HLQ := uH (HL4.out.set0 (.slice (some ⟨g, 0, none⟩) (k + 1) ncap))
  exact HQ.out _ _ _ _ _ _ _ _ _ _ _ _ _ _ _ (case0_readyB HLQ O4 HCP G4 hOA HLen HGd ⟨HZ.out, ⟨hlo1, hlo2⟩, by have := HZ2.out; constructor <;> simp only <;> omega⟩ (by have := HCl.out; omega) hA hB (by omega) (by omega))
end Go.Proofs.YtgeklmigfhhpfaaGreatDoor
