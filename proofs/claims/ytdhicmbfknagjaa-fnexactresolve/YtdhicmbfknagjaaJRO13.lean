/- A Value's and a Field's cells; Lists of Items copied by append: the program's slices.Clone, the model's l13Copy; a Value pushed onto a list of the call's own. -/
import Derived.WalkLawsBesides
import Derived.Test.YtdhicmbfknagjaaJRO11
import Derived.Test.YtdhicmbfknagjaaJRO12
import Derived.Test.YtdhicmbfknagjaaJRO04
import Derived.Test.YtdhicmbfknagjaaJRO08
import Derived.Test.YtdhicmbfknagjaaJRO09
import Derived.Test.YtdhicmbfknagjaaJRO02
namespace Go.Proofs.Ytdhicmbfknagjaa.VkR
set_option maxRecDepth 8000
open Go.RowKit
open Ls Lp VkP
open Recs (hsz below1 below2 below3 chain chainD)
set_option linter.unusedVariables false
abbrev vrow (u : Vlu) (A : Option Addr) (c : Nat) : Array Value := #[.int .i64 u.kind, .int .i64 u.num, .string u.text, .bool u.lst, .slice A u.items.length c]
theorem five {w w1 : World} {u : Vlu} {A : Option Addr} {c : Nat} (b1 : Below (w.alloc (.cells (vrow u A c) 84 (0, 0))).heap.size (w.alloc (.cells (vrow u A c) 84 (0, 0))) w1) : w1.cell? ⟨w.heap.size, 0, none⟩ = some (.int .i64 u.kind) ∧ w1.cell? ⟨w.heap.size, 1, none⟩ = some (.int .i64 u.num) ∧ w1.cell? ⟨w.heap.size, 2, none⟩ = some (.string u.text) ∧ w1.cell? ⟨w.heap.size, 3, none⟩ = some (.bool u.lst) ∧ w1.cell? ⟨w.heap.size, 4, none⟩ = some (.slice A u.items.length c) := by
  have h := (b1.block w.heap.size (by rw [hsz]; omega)).trans (heap_alloc_new w _)
  exact ⟨cell_of_row w1 _ 0 _ _ (0, 0) h, cell_of_row w1 _ 1 _ _ (0, 0) h, cell_of_row w1 _ 2 _ _ (0, 0) h, cell_of_row w1 _ 3 _ _ (0, 0) h, cell_of_row w1 _ 4 _ _ (0, 0) h⟩
theorem itm_at {w w' : World} {S : Nat → Prop} {A : Option Addr} {c : Nat} {us : List Itm} {g o : Nat} {F : Nat → Nat → Value} (h : Opn 2 EItm w S A c us g o F) (hS : ∀ g, S g → g < w.heap.size) (hb : Below w.heap.size w w') {k : Nat} (hk : k < us.length) : w'.cell? ⟨g, o + k * 2, none⟩ = some (.int .i64 (us.getD k default).num) ∧ w'.cell? ⟨g, o + k * 2 + 1, none⟩ = some (.string (us.getD k default).text) := by
  have OL := h.later keepsItm hS hb
  have e := OL.el k hk
  exact ⟨by have := OL.cells k hk 0 (by omega); rw [e.1] at this; simpa using this, by have := OL.cells k hk 1 (by omega); rw [e.2] at this; exact this⟩
theorem all_next {T : Type} [Inhabited T] (p : T → Bool) (us : List T) (k : Nat) (hk : k < us.length) (h : (us.take k).all p = true) (hp : p (us.getD k default) = true) : (us.take (k + 1)).all p = true := by
  rw [List.take_succ_eq_append_getElem hk, List.all_append, h]
  simp [hk] at hp
  simp [hp]
theorem all_bad {T : Type} [Inhabited T] (p : T → Bool) (us : List T) (k : Nat) (hk : k < us.length) (hp : p (us.getD k default) = false) : us.all p = false := by
  simp [hk] at hp
  exact List.all_eq_false.2 ⟨us[k], List.getElem_mem hk, by simp [hp]⟩
theorem one_text {us : List Itm} (h : szL szItm us ≤ 1048576) {k : Nat} (hk : k < us.length) : (us.getD k default).text.size ≤ 1048576 := by
  have := szL_one szItm h hk
  simpa [szItm] using this
abbrev frow (f : Fld) (A : Option Addr) (c : Nat) (B : Option Addr) (d : Nat) : Array Value := #[.string f.name, .int .i64 f.kind, .bool f.lst, .bool f.may, .slice A f.was.length c, .bool f.fixd, .int .i64 f.vk, .int .i64 f.vn, .string f.vt, .bool f.vl, .slice B f.vi.length d]
/-- The Value that lies in a Field. -/
def vluOf (f : Fld) : Vlu := ⟨f.vk, f.vn, f.vt, f.vl, f.vi⟩
theorem form {w : World} {S : Nat → Prop} {v : Value} {f : Fld} (h : FldAt w S v f) : ∃ A c B d, v = .agg (frow f A c B d) ∧ StrsAt w S (.slice A f.was.length c) f.was ∧ LAt 2 EItm w S (.slice B f.vi.length d) f.vi := by
  obtain ⟨q, rfl, y0, y1, y2, y3, y4, y5, y6, y7, y8, y9, y10⟩ := h
  obtain ⟨A, c, h4⟩ := y4.form
  obtain ⟨B, d, h10⟩ := y10.form
  refine ⟨A, c, B, d, ?_, by rw [← h4]; exact y4, by rw [← h10]; exact y10⟩
  simp only [arrFld, frow]
  rw [y0, y1, y2, y3, h4, y5, y6, y7, y8, y9, h10]
theorem formV {w : World} {S : Nat → Prop} {v : Value} {u : Vlu} (h : VluAt w S v u) : ∃ A c, v = .agg (vrow u A c) ∧ LAt 2 EItm w S (.slice A u.items.length c) u.items := by
  obtain ⟨q, rfl, y0, y1, y2, y3, y4⟩ := h
  obtain ⟨A, c, h4⟩ := y4.form
  refine ⟨A, c, ?_, by rw [← h4]; exact y4⟩
  simp only [arrVlu, vrow]
  rw [y0, y1, y2, y3, h4]
theorem inner {w : World} {S : Nat → Prop} {f : Fld} {B : Option Addr} {d : Nat} (h : LAt 2 EItm w S (.slice B f.vi.length d) f.vi) : VluAt w S (.agg (vrow (vluOf f) B d)) (vluOf f) :=
  ⟨fun q => if q = 0 then .int .i64 f.vk else if q = 1 then .int .i64 f.vn else if q = 2 then .string f.vt else if q = 3 then .bool f.vl else .slice B f.vi.length d, rfl, rfl, rfl, rfl, rfl, h⟩
theorem sz_inner (f : Fld) (h : szFld f ≤ 1048576) : szVlu (vluOf f) ≤ 1048576 := by
  unfold szFld at h
  unfold vluOf
  omega
namespace FVlu
theorem form {w : World} {S : Nat → Prop} {v : Value} {t : Vlu} (h : VluAt w S v t) : ∃ A4 aq4, v = .agg #[.int .i64 t.kind, .int .i64 t.num, .string t.text, .bool t.lst, .slice A4 t.items.length aq4] := by
  obtain ⟨A, c, h1, -⟩ := formV h
  exact ⟨A, c, h1⟩
end FVlu
namespace FFld
theorem form {w : World} {S : Nat → Prop} {v : Value} {t : Fld} (h : FldAt w S v t) : ∃ A4 aq4 A10 aq10, v = .agg #[.string t.name, .int .i64 t.kind, .bool t.lst, .bool t.may, .slice A4 t.was.length aq4, .bool t.fixd, .int .i64 t.vk, .int .i64 t.vn, .string t.vt, .bool t.vl, .slice A10 t.vi.length aq10] := by
  obtain ⟨A, c, B, d, h1, -, -⟩ := VkR.form h
  exact ⟨A, c, B, d, h1⟩
end FFld
end Go.Proofs.Ytdhicmbfknagjaa.VkR
namespace Go.Proofs.Ytdhicmbfknagjaa.ClI
set_option maxRecDepth 8000
open Go.RowKit
open Ls Lp VkP VkR
open Recs (hsz below1 below2 below3 chain chainD)
set_option linter.unusedVariables false
def icell (us : List Itm) (q : Nat) : Value := if q % 2 = 0 then .int .i64 (us.getD (q / 2) default).num else .string (us.getD (q / 2) default).text
def icells (us : List Itm) : List Value := (List.range (us.length * 2)).map (icell us)
theorem icells_len (us : List Itm) : (icells us).length = us.length * 2 := by simp [icells]
theorem icell0 (us : List Itm) (i : Nat) : icell us (i * 2 + 0) = .int .i64 (us.getD i default).num := by
  unfold icell
  rw [if_pos (by omega), show (i * 2 + 0) / 2 = i by omega]
theorem icell1 (us : List Itm) (i : Nat) : icell us (i * 2 + 1) = .string (us.getD i default).text := by
  unfold icell
  rw [if_neg (by omega), show (i * 2 + 1) / 2 = i by omega]
theorem icells_one (us : List Itm) : ∀ u ∈ icells us, u.oneCell' = true := by
  intro u hu
  simp only [icells, List.mem_map] at hu
  obtain ⟨q, -, rfl⟩ := hu
  unfold icell
  split <;> rfl
theorem news_of {w : World} {S : Nat → Prop} {A : Option Addr} {c : Nat} {us : List Itm} (h : LAt 2 EItm w S (.slice A us.length c) us) : us.length ≠ 0 → ∃ ad, A = some ad ∧ ∀ j u, (icells us)[j]? = some u → w.cell? (ad.add j) = some u := fun hn => by
  obtain ⟨_, A', c', h1, h2⟩ := h
  simp only [Value.slice.injEq, true_and] at h1
  obtain ⟨rfl, rfl⟩ := h1
  obtain ⟨g, o, F, rfl, hg, hc, hcell, hel⟩ := h2.resolve_left hn
  refine ⟨_, rfl, fun j u hj => ?_⟩
  have hlt := (List.getElem?_eq_some_iff.1 hj).1
  rw [icells_len] at hlt
  have hi : j / 2 < us.length := by omega
  have hc2 := hcell (j / 2) hi (j % 2) (by omega)
  have e := hel (j / 2) hi
  have hadd : (⟨g, o, none⟩ : Addr).add j = ⟨g, o + j, none⟩ := by unfold Addr.add; split <;> simp_all
  rw [hadd, show o + j = o + j / 2 * 2 + j % 2 by omega, hc2]
  simp only [icells, List.getElem?_map, List.getElem?_range hlt, Option.map_some] at hj
  rw [← hj]
  unfold icell
  split
  · next h0 => rw [h0, e.1]
  · next h0 => rw [show j % 2 = 1 by omega, e.2]
theorem items_own {w : World} {b : Nat} {v : Value} {us : List Itm} {S : Nat → Prop} (h : w.ownsRow b 99 2 v us.length (icells us)) (hl : us.length ≤ 1048576) (hS : ∀ y, v.ownBlock = some y → S y) : Ow.ItmsOwn w S v us := by
  refine ⟨hl, ?_⟩
  rcases h.2 with ⟨rfl, h0⟩ | ⟨g, cap, cur, rfl, hb, hg, hnc, hcm, hcs, htake⟩
  · exact ⟨none, 0, by rw [h0], .inl h0⟩
  · refine ⟨_, cap, rfl, .inr ⟨g, icell us, fun _ _ => False, rfl, hS g rfl, fun _ _ _ h => h.elim, ⟨⟨h.1, .inr ⟨g, cap, cur, rfl, Nat.le_refl _, hg, hnc, hcm, hcs, htake⟩⟩, rfl, fun i hi => ?_, fun _ _ _ h => h.elim, fun _ _ _ _ _ _ h => h.elim⟩⟩⟩
    exact ⟨icell0 us i, icell1 us i⟩
theorem infoItmZ : (Try.prog.info? 99).map (fun i => (i.zero, i.size, i.bytes)) = some (some (.agg #[.int .i64 0, .string ⟨#[]⟩]), 2, 24) := by kernel_rfl
theorem infoVluZ : (Try.prog.info? 84).map (fun i => (i.zero, i.size, i.bytes)) = some (some (.agg #[.int .i64 0, .int .i64 0, .string ⟨#[]⟩, .bool false, .slice none 0 0]), 5, 64) := by kernel_rfl
theorem empty_own (w : World) (t : TypeId) (s : Nat) : (w.alloc (.cells #[] t (0, 0))).ownsRow w.heap.size t s (.slice (some ⟨w.heap.size, 0, none⟩) 0 0) 0 [] :=
  ⟨by simp, .inr ⟨w.heap.size, 0, #[], rfl, Nat.le_refl _, heap_alloc_new _ _, by omega, by unfold maxLen; omega, by simp, by simp⟩⟩
/-- What an append of all Items to an empty row leaves. -/
theorem all_own {w w2 : World} {v' : Value} {us : List Itm} (h : w2.ownsRow w.heap.size 99 2 v' (0 + us.length) ([] ++ icells us)) (hl : us.length ≤ 1048576) : Ow.ItmsOwn w2 (seg w.heap.size w2.heap.size) v' us := by
  rw [Nat.zero_add, List.nil_append] at h
  exact items_own h hl (fun y hy => World.ownsRow.lt h y hy)
set_option maxHeartbeats 1600000 in
theorem clone_any (A : Option Addr) (c : Nat) (us : List Itm) (w : World) (S : Nat → Prop) (h : LAt 2 EItm w S (.slice A us.length c) us) (hS : ∀ g, S g → g < w.heap.size) (hl : us.length ≤ 1048576) :
    Calls Try.prog 68 #[.slice A us.length c] w fun e w' => ∃ v, e = .returned v ∧ Ow.ItmsOwn w' (seg w.heap.size w'.heap.size) v us ∧ Below w.heap.size w w' := by
  have H := Seg.hid h
  clear h
  cases A with
  | none =>
    have hz : us.length = 0 := by
      obtain ⟨_, A', c', h1, h2⟩ := H.out
      simp only [Value.slice.injEq, true_and] at h1
      obtain ⟨rfl, rfl⟩ := h1
      rcases h2 with h2 | ⟨g, o, F, h3, _⟩
      · exact h2
      · cases h3
    obtain rfl := List.length_eq_zero_iff.1 hz
    have hq := Lib.run_eql_slice_nil (P := Try.prog) w 82 99 none 0 c 0 0 Try.underlying82
    go_enter Try.func68, Try.ntmps68
    go_wp2
    go_ret
    exact ⟨_, rfl, Ow.LOwn.nil _ _ _ _, Below.refl _ _⟩
  | some ad =>
    obtain ⟨i0, hi, hz0, hz1, hz2⟩ := info_parts infoItmZ
    have OW : Hid ((w.alloc (.cells #[] 99 (0, 0))).ownsRow w.heap.size 99 2 (.slice (some ⟨w.heap.size, 0, none⟩) 0 0) 0 []) := empty_own w _ _
    have NW : Hid (us.length ≠ 0 → ∃ ad', some ad = some ad' ∧ ∀ j u, (icells us)[j]? = some u → (w.alloc (.cells #[] 99 (0, 0))).cell? (ad'.add j) = some u) := news_of (LAt.below keepsItm H.out (below1 w _) hS)
    have hq := Lib.run_eql_slice_nil (P := Try.prog) w 82 99 (some ad) us.length c 0 0 Try.underlying82
    go_enter Try.func68, Try.ntmps68
    go_wp2_with (at_builtin; refine AppW.wpList_append_all _ rfl _ _ 82 rfl w.heap.size 99 i0 _ 2 24 Try.underlying82 hi hz0 hz1 hz2 rfl (by decide) (.slice (some ⟨w.heap.size, 0, none⟩) 0 0) 0 [] rfl OW.out (some ad) us.length c (icells us) rfl (icells_len us) NW.out (icells_one us) (by unfold maxLen; omega) (by omega) (by rw [hsz]; omega) ?_; intro v' w2 hown hgr hvb; have OA : Hid (Ow.ItmsOwn w2 (seg w.heap.size w2.heap.size) v' us) := all_own hown hl; have B2 : Hid (Below w.heap.size w w2) := (below1 w _).grown hgr (by rw [hsz]; omega) (fun k hk => by simp only [Value.ownBlock, Option.some.injEq] at hk; omega); clear hown hgr hvb)
    go_ret
    exact ⟨_, rfl, OA.out, B2.out⟩
/-- A Value of a box whose Items are written anew. -/
theorem box_put {wx : World} {gb : Nat} {u : Vlu} {A A' : Option Addr} {c c' : Nat} (h : wx.heap[gb]? = some (.cells (vrow u A c) 84 (0, 0))) : (wx.setCell ⟨gb, 4, none⟩ (.slice A' u.items.length c')).heap[gb]? = some (.cells (vrow u A' c') 84 (0, 0)) := heap_setCell_same wx gb 4 _ _ (.slice A' u.items.length c') h
theorem five3 {w1 : World} {gb : Nat} {u : Vlu} {A : Option Addr} {c : Nat} (h : w1.heap[gb]? = some (.cells (vrow u A c) 84 (0, 0))) : w1.cell? ⟨gb, 0, none⟩ = some (.int .i64 u.kind) ∧ w1.cell? ⟨gb, 1, none⟩ = some (.int .i64 u.num) ∧ w1.cell? ⟨gb, 2, none⟩ = some (.string u.text) ∧ w1.cell? ⟨gb, 3, none⟩ = some (.bool u.lst) ∧ w1.cell? ⟨gb, 4, none⟩ = some (.slice A u.items.length c) :=
  ⟨cell_of_row w1 _ 0 _ _ (0, 0) h, cell_of_row w1 _ 1 _ _ (0, 0) h, cell_of_row w1 _ 2 _ _ (0, 0) h, cell_of_row w1 _ 3 _ _ (0, 0) h, cell_of_row w1 _ 4 _ _ (0, 0) h⟩
/-- A Value with Items of the call's own, as an element of a list. -/
theorem elt {w : World} {Q : Nat → Prop} {u : Vlu} {A : Option Addr} {c : Nat} (h : Ow.ItmsOwn w Q (.slice A u.items.length c) u.items) : Ow.EOVlu w Q (fun q => (vrow u A c).toList.getD q default) u :=
  ⟨⟨rfl, rfl, rfl, rfl⟩, fun i y => i = 4 ∧ Q y, fun i y hy => hy.2, fun i j hij y hy hy' => hij (hy.1.trans hy'.1.symm), Ow.LOwn.mono h (fun y hy => ⟨rfl, hy⟩)⟩
/-- The list behind one append: w2 the world ahead of it (the row of the new element just laid). -/
theorem push {wr w2 w3 : World} {base g cap : Nat} {v : Value} {us : List Vlu} {F : Nat → Value} {P : Nat → Nat → Prop} {u : Vlu} {A : Option Addr} {c : Nat} (h : Ow.LGr 84 5 Ow.EOVlu wr base v us F P) (hbase : base ≤ wr.heap.size) (hb : Below wr.heap.size wr w2)
    (hi : Ow.ItmsOwn w2 (seg wr.heap.size w2.heap.size) (.slice A u.items.length c) u.items) (hown : w3.ownsRow base 84 5 (.slice (some ⟨g, 0, none⟩) (us.length + 1) cap) (us.length + 1) ((List.range (us.length * 5)).map F ++ (vrow u A c).toList)) (gr : w2.grownBy w3 v.ownBlock) (hg : v.ownBlock = some g ∨ g = w2.heap.size) :
    Ow.LGrow 84 5 Ow.EOVlu w3 base (.slice (some ⟨g, 0, none⟩) (us.length + 1) cap) (us ++ [u]) :=
  Ow.LGr.push Ow.keepsOVlu h hbase hb.size (fun x _ hx => hb.block x hx) (elt hi) (fun x hx => hx) rfl hown gr hg
end Go.Proofs.Ytdhicmbfknagjaa.ClI
