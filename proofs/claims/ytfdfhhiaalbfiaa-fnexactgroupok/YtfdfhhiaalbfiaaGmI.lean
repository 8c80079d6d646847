/- What members want and what they are to have, as lists of the program's own. -/
import Derived.Test.YtfdfhhiaalbfiaaGmP
import Derived.Deep.AppendLies
namespace Go.Proofs.Ytfdfhhiaalbfiaa.GmI
set_option maxRecDepth 8000
open Go.RowKit Go.Maps
open Ls Lp WnP GpP HoP HoM HoI GmP
open Recs (hsz below1 below2 chain)
set_option linter.unusedVariables false
def wI (q : Nat) : Nat := if q % 3 = 0 then 0 else if q % 3 = 1 then 2 else 5
theorem wants_of {w w' : World} {base : Nat} {S : Nat → Prop} {v : Value} {us : List Mbr} {F : Nat → Nat → Value} (hn : us.length ≤ 9223372036854775807) (ho : w'.ownsRow base 157 3 v us.length ((List.range (us.length * 3)).map fun q => F (q / 3) (wI q))) (hS : ∀ g, S g → g < w.heap.size) (hb : Below w.heap.size w w') (he : ∀ i, i < us.length → EMbr w S (F i) (us.getD i default)) :
    LAt 3 EWnt w' (fun g => g < w'.heap.size) v (us.map toW) := by
  refine ⟨by simpa using hn, ?_⟩
  have hg : ∀ g, S g → g < w'.heap.size := fun g hg => Nat.lt_of_lt_of_le (hS g hg) hb.size
  rw [List.length_map]
  rcases ho.2 with ⟨h1, h2⟩ | ⟨g, cap, cur, h1, h2, h3, h4, h5, h6, h7⟩
  · exact ⟨none, 0, by rw [h1, h2], .inl h2⟩
  · refine ⟨_, cap, h1, .inr ⟨g, 0, fun i j => F i (wI j), rfl, (Array.getElem?_eq_some_iff.1 h3).1, h4, fun i hi j hj => ?_, fun i hi => ?_⟩⟩
    · have e : cur[i * 3 + j]? = some (F ((i * 3 + j) / 3) (wI (i * 3 + j))) := by
        have h8 : (cur.toList.take (us.length * 3))[i * 3 + j]? = ((List.range (us.length * 3)).map fun q => F (q / 3) (wI q))[i * 3 + j]? := by rw [h7]
        rw [List.getElem?_take_of_lt (by omega)] at h8
        simpa [show i * 3 + j < us.length * 3 by omega] using h8
      rw [show (i * 3 + j) / 3 = i by omega, show wI (i * 3 + j) = wI j by unfold wI; rw [show (i * 3 + j) % 3 = j % 3 by omega]] at e
      rw [show 0 + i * 3 + j = i * 3 + j by omega]
      simp [World.cell?, h3, e]
    · obtain ⟨y0, y1, y2, y3, y4, y5, y6⟩ := he i hi
      rw [toW_getD us hi]
      exact ⟨y0, LAt.mono growsStr (LAt.below keepsStr y2 hb hS) hg, LAt.mono growsSlt (LAt.below keepsSlt y5 hb hS) hg⟩
set_option maxHeartbeats 3200000 in
theorem wantsOf_any (x : Value) (l : List Mbr) (w : World) (S : Nat → Prop) (hv : LAt 7 EMbr w S x l) (hS : ∀ g, S g → g < w.heap.size) (hn : l.length ≤ 1048576) :
    Calls Try.prog 73 #[x] w fun e w' => ∃ v, e = .returned v ∧ LAt 3 EWnt w' (fun g => g < w'.heap.size) v (l.map toW) ∧ Below w.heap.size w w' := by
  obtain ⟨i0, hi, hz0, hz1, hz2⟩ := info_parts infoZWnt
  obtain ⟨A, c, g, o, F, rfl, OA, n3⟩ := opn hv hS
  have HA := Seg.hid OA
  have HE : Hid (∀ i, i < l.length → EMbr w S (F i) (l.getD i default)) := fun i hi => OA.el i hi
  clear hv OA
  go_enter Try.func73, Try.ntmps73
  have O0 : Hid ((w.alloc (.cells #[] 157 (0, 0))).ownsRow w.heap.size 157 3 (.slice (some ⟨w.heap.size, 0, none⟩) 0 0) 0 ((List.range (0 * 3)).map fun q => F (q / 3) (wI q))) := ⟨rfl, .inr ⟨w.heap.size, 0, #[], rfl, Nat.le_refl _, heap_alloc_new _ _, Nat.le_refl _, Nat.zero_le _, rfl, rfl⟩⟩
  go_wp2_with fail
  go_loopw [3, 9] (fun v i wr => ∃ (k : Nat), k ≤ l.length ∧ i = .int .i64 k ∧ Hid (wr.ownsRow w.heap.size 157 3 v k ((List.range (k * 3)).map fun q => F (q / 3) (wI q)) ∧ Below w.heap.size w wr)) (fun _ i _ => l.length - (intOf i).toNat)
  case atStart => exact ⟨0, Nat.zero_le _, rfl, O0.out, below1 _ _⟩
  case round =>
    clear O0
    obtain ⟨k, hk, rfl, HR⟩ := hrel
    by_cases hlt : k < l.length
    · obtain ⟨ea, hc, hga⟩ := HA.out.addr.resolve_left (by omega)
      have hb := HR.out.2
      have OL := HA.out.later keepsMbr hS hb
      obtain ⟨B2, c2, B5, c5, B6, c6, ⟨d0, d1, d2, d3, d4, d5, d6⟩, _, _, _⟩ := mbr_cells (i := k) (fun j hj => OL.cells k hlt j hj) (OL.el k hlt)
      have FK : Hid (F k 0 = .string (l.getD k default).name ∧ F k 2 = .slice B2 (l.getD k default).wants.length c2 ∧ F k 5 = .slice B5 (l.getD k default).owns.length c5) := by
        have a0 := OL.cells k hlt 0 (by omega)
        have a2 := OL.cells k hlt 2 (by omega)
        have a5 := OL.cells k hlt 5 (by omega)
        rw [show o + k * 7 + 0 = o + k * 7 by omega, d0] at a0
        rw [d2] at a2
        rw [d5] at a5
        exact ⟨(Option.some.inj a0).symm, (Option.some.inj a2).symm, (Option.some.inj a5).symm⟩
      have h0 : (0 : Int) ≤ (k : Int) := by omega
      have h1' : (k : Int) < (l.length : Int) := by omega
      have hgr : g < wr.heap.size := Nat.lt_of_lt_of_le hga hb.size
      have hwr := hb.size
      clear OL hb
      generalize l.getD k default = tk at *
      subst ea
      have OW : Hid (∀ o1 o2, ((wr.alloc o1).alloc o2).ownsRow w.heap.size 157 3 (u3) k ((List.range (k * 3)).map fun q => F (q / 3) (wI q))) := fun o1 o2 => own_keep HR.out.1 (fun x _ hx => (below2 wr o1 o2).block x hx)
      have BW : Hid (∀ o1 o2 w9, (((wr.alloc o1).alloc o2).grownBy w9 u3.ownBlock) → Below w.heap.size w w9) := fun o1 o2 w9 h9 => (chain HR.out.2 (below2 wr o1 o2)).grown h9 (by rw [hsz, hsz]; omega) (fun x hx => by
        rcases HR.out.1.2 with ⟨h1, _⟩ | ⟨g', cap, cur, h1, h2, _⟩
        · rw [h1] at hx; cases hx
        · rw [h1] at hx; cases hx; exact h2)
      have PU : Hid ((List.range (k * 3)).map (fun q => F (q / 3) (wI q)) ++ [.string tk.name, .slice B2 tk.wants.length c2, .slice B5 tk.owns.length c5] = (List.range ((k + 1) * 3)).map (fun q => F (q / 3) (wI q))) := by
        show _ = _
        rw [show (k + 1) * 3 = k * 3 + 1 + 1 + 1 by omega, List.range_succ, List.range_succ, List.range_succ]
        simp only [List.map_append, List.map_cons, List.map_nil, List.append_assoc, List.cons_append, List.nil_append]
        rw [show (k * 3) / 3 = k by omega, show (k * 3 + 1) / 3 = k by omega, show (k * 3 + 1 + 1) / 3 = k by omega, show wI (k * 3) = 0 by unfold wI; rw [if_pos (by omega)], show wI (k * 3 + 1) = 2 by unfold wI; rw [if_neg (by omega), if_pos (by omega)], show wI (k * 3 + 1 + 1) = 5 by unfold wI; rw [if_neg (by omega), if_neg (by omega)], FK.out.1, FK.out.2.1, FK.out.2.2]
      clear HR FK
      go_wp2_with (at_builtin; (refine wpList_append_lies _ rfl _ _ 121 rfl w.heap.size 157 i0 _ 3 64 Try.underlying121 hi hz0 hz1 hz2 rfl (by decide) u3 k ((List.range (k * 3)).map fun q => F (q / 3) (wI q)) rfl (OW.out _ _) ⟨wr.heap.size + 1, 0, none⟩ 1 1 [.string tk.name, .slice B2 tk.wants.length c2, .slice B5 tk.owns.length c5] rfl rfl (World.news_of_block (cs := #[.string tk.name, .slice B2 tk.wants.length c2, .slice B5 tk.owns.length c5]) (by first | exact heap_alloc_new _ _ | (rw [← hsz wr]; exact heap_alloc_new _ _))) (by simp [Value.oneCell']) (by decide) (by unfold maxLen; omega) (by omega) (by rw [hsz, hsz]; omega) (wr.heap.size + 1 + 1) (by rw [hsz, hsz]) ?_; intro g9 cap9 w9 hown9 gr9 hat9 hlt9; rw [PU.out] at hown9; have D9 := Seg.hid hown9; have B9 := Seg.hid (BW.out _ _ _ gr9); clear hown9 gr9 hat9 hlt9))
      go_roundw
      case rel => exact ⟨k + 1, by omega, by go_num, D9.out, B9.out⟩
      case measure => simp [intOf]; omega
    · have hkl : k = l.length := by omega
      subst hkl
      have Z0 : LAt 3 EWnt wr (fun g => g < wr.heap.size) u3 (l.map toW) := wants_of n3 HR.out.1 hS HR.out.2 HE.out
      have Z := Seg.hid Z0
      clear Z0
      go_wp2
      go_ret
      exact ⟨_, rfl, Z.out, HR.out.2⟩
set_option maxHeartbeats 3200000 in
theorem targetsOf_any (x : Value) (l : List Mbr) (w : World) (S : Nat → Prop) (hv : LAt 7 EMbr w S x l) (hS : ∀ g, S g → g < w.heap.size) (hn : l.length ≤ 1048576) :
    Calls Try.prog 77 #[x] w fun e w' => ∃ v, e = .returned v ∧ LAt 1 ESlt2 w' (fun g => g < w'.heap.size) v (tgs l) ∧ Below w.heap.size w w' := by
  obtain ⟨i0, hi, hz0, hz1, hz2⟩ := info_parts infoZSlt2
  obtain ⟨A, c, g, o, F, rfl, OA, n3⟩ := opn hv hS
  have HA := Seg.hid OA
  have HE : Hid (∀ i, i < l.length → LAt 2 ESlt w S (F i 6) (l.getD i default).target) := fun i hi => (OA.el i hi).2.2.2.2.2.2
  clear hv OA
  go_enter Try.func77, Try.ntmps77
  have O0 : Hid ((w.alloc (.cells #[] 65 (0, 0))).ownsRow w.heap.size 65 1 (.slice (some ⟨w.heap.size, 0, none⟩) 0 0) 0 ((List.range 0).map fun j => F j 6)) := ⟨rfl, .inr ⟨w.heap.size, 0, #[], rfl, Nat.le_refl _, heap_alloc_new _ _, Nat.le_refl _, Nat.zero_le _, rfl, rfl⟩⟩
  go_wp2_with fail
  go_loopw [3, 9] (fun v i wr => ∃ (k : Nat), k ≤ l.length ∧ i = .int .i64 k ∧ Hid (wr.ownsRow w.heap.size 65 1 v k ((List.range k).map fun j => F j 6) ∧ Below w.heap.size w wr)) (fun _ i _ => l.length - (intOf i).toNat)
  case atStart => exact ⟨0, Nat.zero_le _, rfl, O0.out, below1 _ _⟩
  case round =>
    clear O0
    obtain ⟨k, hk, rfl, HR⟩ := hrel
    by_cases hlt : k < l.length
    · obtain ⟨ea, hc, hga⟩ := HA.out.addr.resolve_left (by omega)
      have hb := HR.out.2
      have OL := HA.out.later keepsMbr hS hb
      obtain ⟨B2, c2, B5, c5, B6, c6, ⟨d0, d1, d2, d3, d4, d5, d6⟩, _, _, _⟩ := mbr_cells (i := k) (fun j hj => OL.cells k hlt j hj) (OL.el k hlt)
      have FK : Hid (F k 6 = .slice B6 (l.getD k default).target.length c6) := by
        have a6 := OL.cells k hlt 6 (by omega)
        rw [d6] at a6
        exact (Option.some.inj a6).symm
      have h0 : (0 : Int) ≤ (k : Int) := by omega
      have h1' : (k : Int) < (l.length : Int) := by omega
      have hgr : g < wr.heap.size := Nat.lt_of_lt_of_le hga hb.size
      have hwr := hb.size
      clear OL hb
      generalize l.getD k default = tk at *
      subst ea
      have OW : Hid (∀ o1 o2, ((wr.alloc o1).alloc o2).ownsRow w.heap.size 65 1 (u3) k ((List.range k).map fun j => F j 6)) := fun o1 o2 => own_keep HR.out.1 (fun x _ hx => (below2 wr o1 o2).block x hx)
      have BW : Hid (∀ o1 o2 w9, (((wr.alloc o1).alloc o2).grownBy w9 u3.ownBlock) → Below w.heap.size w w9) := fun o1 o2 w9 h9 => (chain HR.out.2 (below2 wr o1 o2)).grown h9 (by rw [hsz, hsz]; omega) (fun x hx => by
        rcases HR.out.1.2 with ⟨h1, _⟩ | ⟨g', cap, cur, h1, h2, _⟩
        · rw [h1] at hx; cases hx
        · rw [h1] at hx; cases hx; exact h2)
      have PU : Hid ((List.range k).map (fun j => F j 6) ++ [Value.slice B6 tk.target.length c6] = (List.range (k + 1)).map (fun j => F j 6)) := by
        show _ = _
        rw [List.range_succ, List.map_append, List.map_singleton, FK.out]
      clear HR
      go_wp2_with (at_builtin; (refine wpList_append_lies _ rfl _ _ 125 rfl w.heap.size 65 i0 _ 1 24 Try.underlying125 hi hz0 hz1 hz2 rfl (by decide) u3 k ((List.range k).map fun j => F j 6) rfl (OW.out _ _) ⟨wr.heap.size + 1, 0, none⟩ 1 1 [.slice B6 tk.target.length c6] rfl rfl (World.news_of_block (cs := #[.slice B6 tk.target.length c6]) (by first | exact heap_alloc_new _ _ | (rw [← hsz wr]; exact heap_alloc_new _ _))) (by simp [Value.oneCell']) (by decide) (by unfold maxLen; omega) (by omega) (by rw [hsz, hsz]; omega) (wr.heap.size + 1 + 1) (by rw [hsz, hsz]) ?_; intro g9 cap9 w9 hown9 gr9 hat9 hlt9; rw [PU.out] at hown9; have D9 := Seg.hid hown9; have B9 := Seg.hid (BW.out _ _ _ gr9); clear hown9 gr9 hat9 hlt9))
      go_roundw
      case rel => exact ⟨k + 1, by omega, by go_num, D9.out, B9.out⟩
      case measure => simp [intOf]; omega
    · have hkl : k = l.length := by omega
      subst hkl
      have Z0 : LAt 1 ESlt2 wr (fun g => g < wr.heap.size) u3 (tgs l) := lists_of (us := tgs l) (H := fun j => F j 6) (by simpa [tgs] using n3) (by simpa [tgs] using HR.out.1) hS HR.out.2 (fun i hi => by
        have hi' : i < l.length := by simpa [tgs] using hi
        have := HE.out i hi'
        rw [tgs_getD l hi']
        exact this)
      have Z := Seg.hid Z0
      clear Z0
      go_wp2
      go_ret
      exact ⟨_, rfl, Z.out, HR.out.2⟩
end Go.Proofs.Ytfdfhhiaalbfiaa.GmI
