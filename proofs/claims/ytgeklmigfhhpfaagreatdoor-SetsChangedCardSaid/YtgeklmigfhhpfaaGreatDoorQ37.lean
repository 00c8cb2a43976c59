/-
 ASet: a condition that is odd.
-/
import Derived.Deep.RegionLaw
import Derived.Deep.DeepMust
import Derived.Test.YtgeklmigfhhpfaaGreatDoorQ12
import Derived.Test.YtgeklmigfhhpfaaGreatDoorQ35
namespace Go.Proofs.YtgeklmigfhhpfaaGreatDoor
open Go.RowKit
attribute [local go_sem ↓] Go.wp_at_zero Go.wp_at_succ
noncomputable def regionOf1 (n : Nat) : Code → Option Code
 | .region k ops b => if k = n then some (.region k ops b) else none
 | .loop c => regionOf1 n c
 | .seq a b => match regionOf1 n a with
   | some c => some c
   | none => regionOf1 n b
 | .block _ c => regionOf1 n c
 | .scope c => regionOf1 n c
 | .cond _ a b => match regionOf1 n a with
   | some c => some c
   | none => regionOf1 n b
 | _ => none
def blind1 (Qp : List PanicEntry → List Deferred → World → Prop) (Q : Exit → Act → World → Prop) : Exit → Act → World → Prop
 | .panic v, a, w => Qp v a.defers w
 | e, a, w => Q e a w
theorem wp_blind1ly {P : Program} {s : Code} {K : Act → World → Prop} {Q : Exit → Act → World → Prop} {a : Act} {w : World} (hb : ∀ v a b w, a.defers = b.defers → Q (.panic v) a w → Q (.panic v) b w) (h : s.wp P (Exit.then K (blind1 (fun v ds w => ∃ a, a.defers = ds ∧ Q (.panic v) a w) Q)) a w) : s.wp P (Exit.then K Q) a w := by
 refine wp_mono h ?_
 intro e a' w' hq
 cases e
 case panic v => obtain ⟨b, hb1, hb2⟩ := hq; exact hb _ _ _ _ hb1 hb2
 all_goals exact hq
noncomputable def setRegion1 (n : Nat) : Code := (Tryz.f4.body.bind (regionOf1 n)).getD .skip
set_option maxRecDepth 100000 in
set_option maxHeartbeats 40000000 in
theorem case1_region {B m M k j P : Nat} {w wN : World} {l : List SideD} {cs : List CondD} {tvs : List Value} {ps pc : Option Addr} {scap ccap : Nat} {K : Act → World → Prop} {Qp : List PanicEntry → List Deferred → World → Prop} {Q : Exit → Act → World → Prop} {u1 u2 u4 u5 u6 u7 u8 u9 u10 u11 u12 u13 u14 u15 u16 u17 u18 u19 u20 u21 u22 u23 u24 u25 u26 u27 u28 u29 u30 u31 u32 u33 u34 u35 u36 u37 u38 u39 u40 u41 u42 u43 u44 u45 u46 u47 u48 u49 u50 u51 u52 u53 u54 u55 u56 u57 u58 u59 u60 u61 u62 u63 u64 u65 u66 u67 u68 u69 u70 u71 u72 u73 u74 u75 u76 u77 u78 u79 u80 u81 u82 u83 u84 u85 u86 u87 u88 u89 u90 u91 u92 u93 u94 u95 u96 u97 u98 u99 u100 u101 u102 u103 u104 u105 u106 u107 u108 u109 u110 u111 u112 u113 u114 u115 u116 u117 u118 u119 u120 u121 u122 u123 u124 u125 u126 u127 u128 u129 : Value}
  (HLN : Hid (LSt B m w wN (.slice ps k scap) (.slice pc cs.length ccap))) (HON : Hid (wN.ownsRow (w.heap.size + 3) 63 3 (.slice ps k scap) k (l.flatMap sideCells))) (HCN : Hid (CSt wN P (.slice pc cs.length ccap) cs tvs))
  (hOA : ∀ b, (Value.slice ps k scap).ownBlock = some b → b < P) (HLen : Hid (l.length = k)) (HGd : Hid (∀ s ∈ l, goodSide s)) (HCl : Hid (cs.length = j)) (hj : j ≤ 3) (hA : w.heap.size + 3 ≤ P) (hP : P ≤ wN.heap.size) (hB : B < w.heap.size) (hn : k ≤ 3) (hm : m ≤ 2000000) (hM : m + 10 ≤ M)
  (hQ : ∀ (v109 v110 v111 v112 v113 v114 v115 v116 v117 v118 v119 v120 v121 v122 : Value) (w' : World), Hid (ReadyB B M w w') → K ⟨#[.pointer (some ⟨B, 0, none⟩), u1, u2, .pointer (some ⟨w.heap.size + 1, 0, none⟩), u4, u5, u6, u7, u8, u9, u10, u11, u12, u13, u14, u15, u16, u17, u18, u19, u20, u21, u22, u23, u24, u25, u26, u27, u28, u29, u30, u31, u32, u33, u34, u35, u36, u37, u38, u39, u40, u41, u42, u43, u44, u45, u46, u47, u48, u49, u50, u51, u52, u53, u54, u55, u56, u57, u58, u59, u60, u61, u62, u63, u64, u65, u66, u67, u68, u69, u70, u71, u72, u73, u74, u75, u76, u77, u78, u79, u80, u81, u82, u83, u84, u85, u86, u87, u88, u89, u90, u91, u92, u93, u94, u95, u96, u97, u98, u99, u100, u101, u102, u103, u104, u105, u106, u107, u108, v109, v110, v111, v112, v113, v114, v115, v116, v117, v118, v119, v120, v121, v122, u123, u124, u125, u126, u127, u128, u129], []⟩ w') :
  Code.wp Tryz.prog (setRegion1 27) (Exit.then K (blind1 Qp Q)) ⟨#[.pointer (some ⟨B, 0, none⟩), u1, u2, .pointer (some ⟨w.heap.size + 1, 0, none⟩), u4, u5, u6, u7, u8, u9, u10, u11, u12, u13, u14, u15, u16, u17, u18, u19, u20, u21, u22, u23, u24, u25, u26, u27, u28, u29, u30, u31, u32, u33, u34, u35, u36, u37, u38, u39, u40, u41, u42, u43, u44, u45, u46, u47, u48, u49, u50, u51, u52, u53, u54, u55, u56, u57, u58, u59, u60, u61, u62, u63, u64, u65, u66, u67, u68, u69, u70, u71, u72, u73, u74, u75, u76, u77, u78, u79, u80, u81, u82, u83, u84, u85, u86, u87, u88, u89, u90, u91, u92, u93, u94, u95, u96, u97, u98, u99, u100, u101, u102, u103, u104, u105, u106, u107, u108, u109, u110, u111, u112, u113, u114, u115, u116, u117, u118, u119, u120, u121, u122, u123, u124, u125, u126, u127, u128, u129], []⟩ wN := by
 conv => arg 2; whnf
 have csN := HLN.out.cell0
 have ccN := HLN.out.cell1
 have fcN := HLN.out.free 1
 have HQ := uH hQ
 clear hQ
 obtain ⟨j0, hj0, hy0, hy1, hy2⟩ := info_parts Tryz.infoForm
 have ccNs := (gA wN (.cells #[.string ⟨#[113]⟩, .string ⟨#[105]⟩, .string ⟨#[]⟩] 9) none).cell ccN (by simp)
 have ccNi := (gA wN (.cells #[.int .i64 1, .int .i64 0, .int .i64 1001] 3) none).cell ccN (by simp)
 have ccNsi := (gA _ (.cells #[.int .i64 1, .int .i64 0, .int .i64 1001] 3) none).cell ccNs (by simp)
 have ccNis := (gA _ (.cells #[.string ⟨#[113]⟩, .string ⟨#[105]⟩, .string ⟨#[]⟩] 9) none).cell ccNi (by simp)
 go_region_law (first
  | (go_simp; go_at_call 6; go_must (refine (some_from B m _ [⟨#[113]⟩, ⟨#[105]⟩, ⟨#[]⟩] wN _ (by first | exact grown_a2 _ _ _ | exact grown_a1 _ _ | exact gD _ _ | exact gA _ _ _ | exact gR _ _) HLN.out.drawn.2 (by omega) (by simp; omega) (by simp) (by simp) (fun j hj => by rcases (show j = 0 ∨ j = 1 ∨ j = 2 by simp at hj; omega) with rfl | rfl | rfl <;> simp)).mono ?_; rintro e wS ⟨zs, hz, rfl, hd, hd2⟩; have HLS := uH (HLN.out.draw hd); have HOS := uH (owns_drawn HON.out hd (by omega)); have HCS := uH (HCN.out.kept hd.1 (fun k hk => by cases hk; omega)); have ccS := HLS.out.cell1; have ccSi := (gA wS (.cells #[.int .i64 1, .int .i64 0, .int .i64 1001] 3) none).cell ccS (by simp); have HZ := uH (show zs.size ≤ 100 by simp at hz; rcases hz with rfl | rfl | rfl <;> decide); have hszS := hd.1.size; have HKS := uH hd2; clear hd hz hd2))
  | (go_simp; go_at_call 29; go_must (refine (pick_from B (m + 1) _ [1, 0, 1001] wS _ (by first | exact gR _ _ | exact gA _ _ _ | exact grown_a1 _ _ | exact gD _ _) HLS.out.drawn.2 (by omega) (by simp; omega) (by simp) (by simp) (fun j hj => by rcases (show j = 0 ∨ j = 1 ∨ j = 2 by simp at hj; omega) with rfl | rfl | rfl <;> first | (simp; done) | exact HKS.out.cell (by simp) (by simp; omega))).mono ?_; rintro e wP ⟨z, hz, rfl, hd, _⟩; have HLP := uH (HLS.out.draw hd); have HOP := uH (owns_drawn HOS.out hd (by omega)); have HCP := uH (HCS.out.kept hd.1 (fun k hk => by cases hk; omega)); have ccP := HLP.out.cell1; have HZ2 := uH (show z = 1 ∨ z = 0 ∨ z = 1001 by simpa using hz); have hszP := hd.1.size; have ccPt := (gA wP (.cells #[.string zs, .int .i64 z] 65) none).cell ccP (by simp); have ccPf := (gA _ (.cells #[.int .i64 0, .slice (some ⟨wP.heap.size, 0, none⟩) 1 1] 35) none).cell ccPt (by simp); clear hd hz))
  | (refine step_append_lies _ (by rfl) _ _ 27 (by rfl) P 35 j0 (.agg #[.int .i64 0, .slice none 0 0]) 2 32 Tryz.underlying27 hj0 hy0 hy1 hy2 (by rfl) (by decide) (.slice pc cs.length ccap) cs.length ((cs.zip tvs).flatMap condCells) (by rfl) (World.ownsRow.alloc (World.ownsRow.alloc HCP.out.row _) _) ⟨wP.heap.size + 1, 0, none⟩ 1 1 (condCells ((0, [(zs, z)]), .slice (some ⟨wP.heap.size, 0, none⟩) 1 1)) (by rfl) (by rfl) (news_at' (by simp)) (by simp [condCells, Value.oneCell']) (by decide) (by have := HCl.out; unfold maxLen; omega) (by have := HCl.out; omega) (by simp; omega) (wP.heap.size + 1 + 1) (by simp) ?_; intro g ncap w4 hown4 hgrow4 hat _; have G4 := uH (gT (grownBy_any _ (gA (wP.alloc (.cells #[.string zs, .int .i64 z] 65)) _ none)) hgrow4); have HL4 := uH (HLP.out.own (gT (grownBy_any _ (gA _ _ none)) G4.out) (fun k hk => by have := (HCP.out.row.lt _ hk).1; omega)); have c4 := HL4.out.cell1; have f4 := HL4.out.free 1; have O4 := uH hown4; have A4 := uH hat; clear hown4 hgrow4 hat))
 all_goals
  have HLQ := uH (HL4.out.set1 (.slice (some ⟨g, 0, none⟩) (cs.length + 1) ncap))
  exact HQ.out _ _ _ _ _ _ _ _ _ _ _ _ _ _ _ (case1_readyB HLQ HOP HCP HZ HZ2 G4 O4 A4 HLen HGd HCl hA hB hOA (by omega) (by omega) (by omega) (by omega))
end Go.Proofs.YtgeklmigfhhpfaaGreatDoor
