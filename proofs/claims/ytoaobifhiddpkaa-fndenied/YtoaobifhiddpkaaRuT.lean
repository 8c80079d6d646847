/- The text of rules, as the program writes it. -/
import Derived.Test.YtoaobifhiddpkaaRuJ
import Derived.Deep.AppendLies
namespace Go.Proofs.Ytoaobifhiddpkaa.RuI
set_option maxRecDepth 8000
open Go.RowKit
open Ls Lp RuP
open Recs (hsz below1 below2 chain)
set_option linter.unusedVariables false
theorem infoZT : (Try.prog.info? 9).map (fun i => (i.zero, i.size, i.bytes)) = some (some (.string ByteArray.empty), 1, 16) := by kernel_rfl
abbrev scells (l : List ByteArray) : List Value := l.map Value.string
/-- A list of texts that grows. -/
structure LO (w wr : World) (v : Value) (acc : List ByteArray) : Prop where
  own : wr.ownsRow w.heap.size 9 1 v acc.length (scells acc)
  bel : Below w.heap.size w wr
theorem LO.next {w wr w' : World} {v : Value} {acc : List ByteArray} (h : LO w wr v acc) (b : Below wr.heap.size wr w') : LO w w' v acc := by
  refine ⟨⟨h.own.1, ?_⟩, chain h.bel b⟩
  rcases h.own.2 with hn | ⟨g', cap, cur, h1, hbs, hgg, rest⟩
  · exact .inl hn
  · exact .inr ⟨g', cap, cur, h1, hbs, by rw [b.block g' (Array.getElem?_eq_some_iff.1 hgg).1]; exact hgg, rest⟩
theorem LO.ownB {w wr : World} {v : Value} {acc : List ByteArray} (h : LO w wr v acc) : ∀ x, v.ownBlock = some x → w.heap.size ≤ x := fun x hx => by
  rcases h.own.2 with ⟨h1, _⟩ | ⟨g', cap, cur, h1, h2, _⟩
  · rw [h1] at hx; cases hx
  · rw [h1] at hx; cases hx; exact h2
/-- The texts one behind the other. -/
def cat : List ByteArray → ByteArray
  | [] => ⟨#[]⟩
  | a :: r => a ++ cat r
theorem cat_data : ∀ l : List ByteArray, (cat l).data.toList = (l.map (·.data.toList)).flatten
  | [] => rfl
  | a :: r => by simp [cat, ByteArray.data_append, cat_data r]
theorem inter_nil : ∀ l : List (List UInt8), List.intercalate [] l = l.flatten
  | [] => rfl
  | [a] => by simp [List.intercalate]
  | a :: b :: r => by
    have := inter_nil (b :: r)
    simp only [List.intercalate, List.intersperse] at this ⊢
    simp only [List.flatten_cons, List.nil_append] at this ⊢
    rw [← this]
theorem join_cat (l : List ByteArray) : (⟨(Lib.join (l.map (·.data.toList)) (⟨#[]⟩ : ByteArray).data.toList).toArray⟩ : ByteArray) = cat l := by
  apply ByteArray.ext
  show (Lib.join (l.map (·.data.toList)) []).toArray = _
  rw [Lib.join, inter_nil, ← cat_data]
theorem emp_app (a : ByteArray) : (⟨#[]⟩ : ByteArray) ++ a = a := by
  apply ByteArray.ext
  simp [ByteArray.data_append]
theorem app_emp (a : ByteArray) : a ++ (⟨#[]⟩ : ByteArray) = a := by
  apply ByteArray.ext
  simp [ByteArray.data_append]
theorem app_assoc' (a b c : ByteArray) : a ++ b ++ c = a ++ (b ++ c) := by
  apply ByteArray.ext
  simp [ByteArray.data_append]
theorem lines_cat : ∀ (l : List Rul) (s : ByteArray), lines l s = s ++ cat (l.map line)
  | [], s => by simp only [lines, List.map_nil, cat, app_emp]
  | r :: l, s => by rw [lines, lines_cat l, List.map_cons, cat, app_assoc']
theorem texts_cat (l : List Rul) : texts l = cat (l.map line) := by rw [texts, lines_cat, emp_app]
theorem join_any (w wr : World) (v : Value) (acc : List ByteArray) (h : LO w wr v acc) (hn : acc.length ≤ 1048576) (hs : (cat acc).size ≤ 140737488355328) :
    Calls Try.prog 33 #[v, .string ⟨#[]⟩] wr fun e w' => e = .returned (.string (cat acc)) ∧ Below wr.heap.size wr w' := by
  rcases h.own.2 with ⟨h1, h2⟩ | ⟨g, cap, cur, h1, h2, h3, h4, h5, h6, h7⟩
  · obtain rfl := List.length_eq_zero_iff.1 h2
    rw [h1]
    exact (Try.strings_Join_none none 0 ⟨#[]⟩ wr).mono fun e w' ⟨a, b⟩ => ⟨a, b ▸ Below.refl _ _⟩
  · rw [h1]
    have hlen : (Lib.join (acc.map (·.data.toList)) (⟨#[]⟩ : ByteArray).data.toList).length ≤ 140737488355328 := by
      have e : (Lib.join (acc.map (·.data.toList)) (⟨#[]⟩ : ByteArray).data.toList).length = (cat acc).size := by rw [← join_cat]; simp [ByteArray.size]
      rw [e]; exact hs
    have := Try.strings_Join g 0 cap acc ⟨#[]⟩ wr (fun j x hj => by
      have hj' : j < acc.length := (List.getElem?_eq_some_iff.1 hj).1
      have h8 : (cur.toList.take (acc.length * 1))[j]? = (scells acc)[j]? := by rw [h7]
      rw [List.getElem?_take_of_lt (by omega), List.getElem?_map, hj] at h8
      rw [Nat.zero_add]
      have h9 : cur[j]? = some (.string x) := by simpa using h8
      simp [World.cell?, h3, h9]) (Array.getElem?_eq_some_iff.1 h3).1 (by omega) h4 hlen
    rw [join_cat] at this
    exact this
theorem cat_app : ∀ (l m : List ByteArray), cat (l ++ m) = cat l ++ cat m
  | [], m => by simp only [List.nil_append, cat, emp_app]
  | a :: r, m => by rw [List.cons_append, cat, cat_app r m, cat, app_assoc']
set_option maxHeartbeats 6400000 in
theorem text_any (x : Value) (l : List Rul) (w : World) (S : Nat → Prop) (hv : LAt 6 ERul w S x l) (hS : ∀ g, S g → g < w.heap.size) (hf : szL szRul l ≤ 1048576) :
    Calls Try.prog 22 #[x] w fun e w' => e = .returned (.tuple #[.string (text l), .bool (shows l)]) ∧ Below w.heap.size w w' := by
  obtain ⟨i0, hi, hz0, hz1, hz2⟩ := info_parts infoZT
  obtain ⟨A, c, g, o, F, rfl, OA, n3⟩ := opn hv hS
  have HA := Seg.hid OA
  have HL : Hid (∀ i, i < l.length → szRul (l.getD i default) ≤ 1048576) := fun i hi => szL_one _ hf hi
  have hn : l.length ≤ 1048576 := szL_len _ hf
  clear hv OA hf n3
  have no : ∀ (w' : World), shows l = false → Below w.heap.size w w' → (Ending.returned (.tuple #[.string ⟨#[]⟩, .bool false]) = .returned (.tuple #[.string (text l), .bool (shows l)]) ∧ Below w.heap.size w w') := fun w' h b => ⟨by rw [text_no h, h], b⟩
  have NO := Seg.hid no
  clear no
  go_enter Try.func22, Try.ntmps22
  by_cases h1 : l.length ≤ 100
  case neg =>
    have Z : Hid (shows l = false) := by show _ = _; simp [shows, h1]
    have q1 : (100 : Int) < (l.length : Int) := by omega
    go_wp2
    go_ret2
    exact NO.out _ Z.out (Below.refl _ _)
  have q1 : ¬ (100 : Int) < (l.length : Int) := by omega
  have SH : Hid (shows l = (l.all okR && decide ((texts l).size ≤ 4000))) := by show _ = _; simp [shows, h1]
  have A0 : Hid (LO w (w.alloc (.cells #[] 9 (0, 0))) (.slice (some ⟨w.heap.size, 0, none⟩) 0 0) []) := ⟨⟨rfl, .inr ⟨w.heap.size, 0, #[], rfl, Nat.le_refl _, heap_alloc_new _ _, Nat.le_refl _, Nat.zero_le _, rfl, rfl⟩⟩, below1 _ _⟩
  go_wp2_with fail
  go_loopw [4, 14] (fun v i wr => ∃ (k : Nat) (acc : List ByteArray), k ≤ l.length ∧ i = .int .i64 k ∧ Hid (acc.length = k) ∧ (cat acc).size ≤ 100 * k ∧ Hid (LO w wr v acc ∧ (l.drop k).all okR = l.all okR ∧ acc ++ (l.drop k).map line = l.map line)) (fun _ i _ => l.length - (intOf i).toNat)
  case atStart => exact ⟨0, [], Nat.zero_le _, rfl, rfl, by simp [cat, ByteArray.size], A0.out, rfl, rfl⟩
  case round =>
    clear A0
    obtain ⟨k, acc, hk, rfl, HQ, hcs, HR⟩ := hrel
    have hla : acc.length ≤ 100 := by have := HQ.out; omega
    by_cases hlt : k < l.length
    · obtain ⟨ea, hc, hga⟩ := HA.out.addr.resolve_left (by omega)
      have OL := HA.out.later keepsRul hS HR.out.1.bel
      obtain ⟨e0, e1, e2, e3, e4, e5⟩ := rul_cells (i := k) (fun j hj => OL.cells k hlt j hj) (OL.el k hlt)
      have h0 : (0 : Int) ≤ (k : Int) := by omega
      have h1' : (k : Int) < (l.length : Int) := by omega
      have hgr : g < wr.heap.size := Nat.lt_of_lt_of_le hga HR.out.1.bel.size
      have hz := HL.out k hlt
      have A1 : Hid ((okR (l.getD k default) && (l.drop (k + 1)).all okR) = l.all okR) := by
        have := HR.out.2.1
        rw [drop_cons hlt] at this
        exact this
      have A2 : Hid ((acc ++ [line (l.getD k default)]) ++ (l.drop (k + 1)).map line = l.map line) := by
        have := HR.out.2.2
        rw [drop_cons hlt] at this
        show _ = _
        rw [← this]
        simp
      have AR := Seg.hid HR.out.1
      clear OL HR
      generalize l.getD k default = r at *
      subst ea
      have n1 : r.who.size ≤ maxLen := by unfold szRul at hz; unfold maxLen; omega
      have n2 : r.name.size ≤ maxLen := by unfold szRul at hz; unfold maxLen; omega
      clear hz
      go_upto_region 7 with fail
      obtain ⟨w7, hw7⟩ : ∃ w7, wr.alloc (.cells (rrow r) 30 (0, 0)) = w7 := ⟨_, rfl⟩
      rw [hw7]
      have R7 : Hid (w7.heap[wr.heap.size]? = some (.cells (rrow r) 30 (0, 0))) := by show _ = _; rw [← hw7]; exact heap_alloc_new _ _
      have A7 : Hid (LO w w7 u4 acc) := by show LO _ _ _ _; rw [← hw7]; exact AR.out.next (below1 _ _)
      clear hw7 AR e0 e1 e2 e3 e4 e5
      have l7 : wr.heap.size < w7.heap.size := (Array.getElem?_eq_some_iff.1 R7.out).1
      have KA : Hid (∀ wx, Below w7.heap.size w7 wx → wx.cell? ⟨wr.heap.size, 0, none⟩ = some (.bool r.deny) ∧ wx.cell? ⟨wr.heap.size, 1, none⟩ = some (.string r.who) ∧ wx.cell? ⟨wr.heap.size, 2, none⟩ = some (.int .i64 r.may) ∧ wx.cell? ⟨wr.heap.size, 3, none⟩ = some (.int .i64 r.on) ∧ wx.cell? ⟨wr.heap.size, 4, none⟩ = some (.string r.name) ∧ wx.cell? ⟨wr.heap.size, 5, none⟩ = some (.bool r.begins)) := fun wx b => by
        have hR : wx.heap[wr.heap.size]? = some (.cells (rrow r) 30 (0, 0)) := by rw [b.block _ l7]; exact R7.out
        exact ⟨cell_of_row wx _ 0 _ _ (0, 0) hR, cell_of_row wx _ 1 _ _ (0, 0) hR, cell_of_row wx _ 2 _ _ (0, 0) hR, cell_of_row wx _ 3 _ _ (0, 0) hR, cell_of_row wx _ 4 _ _ (0, 0) hR, cell_of_row wx _ 5 _ _ (0, 0) hR⟩
      obtain ⟨e0, e1, e2, e3, e4, e5⟩ := KA.out w7 (Below.refl _ _)
      cases hb : okR r with
      | false =>
        have Z : Hid (shows l = false) := by show _ = _; rw [SH.out, ← A1.out, hb]; rfl
        have CR : Hid (∀ wx, Calls Try.prog 31 #[.agg (rrow r)] wx fun e w' => e = .returned (.bool false) ∧ Below wx.heap.size wx w') := fun wx => by have := ok_any r wx n1 n2; rw [hb] at this; exact this
        clear hb
        go_wp2_with (go_at_call 31; refine (CR.out _).mono ?_; rintro e w2 ⟨rfl, b2⟩; have B2 := Seg.hid b2; clear b2)
        go_ret2
        exact NO.out _ Z.out (chain A7.out.bel B2.out)
      | true =>
        have A3 : Hid ((l.drop (k + 1)).all okR = l.all okR) := by show _ = _; rw [← A1.out, hb]; rfl
        have CR : Hid (∀ wx, Calls Try.prog 31 #[.agg (rrow r)] wx fun e w' => e = .returned (.bool true) ∧ Below wx.heap.size wx w') := fun wx => by have := ok_any r wx n1 n2; rw [hb] at this; exact this
        have CL : Hid (∀ wx, Calls Try.prog 32 #[.agg (rrow r)] wx fun e w' => e = .returned (.string (line r)) ∧ Below wx.heap.size wx w') := fun wx => line_any r wx hb
        have z2 : (cat (acc ++ [line r])).size ≤ 100 * (k + 1) := by have := line_small hb; rw [cat_app, ByteArray.size_append, cat, cat, app_emp]; omega
        clear hb A1
        generalize line r = ln at *
        go_upto_region 9 with (first | (go_at_call 31; refine (CR.out _).mono ?_; rintro e w2 ⟨rfl, b2⟩; have B2 := Seg.hid b2; clear b2))
        have A8 := Seg.hid (A7.out.next B2.out)
        obtain ⟨f0, f1, f2, f3, f4, f5⟩ := KA.out w2 B2.out
        clear e0 e1 e2 e3 e4 e5
        have OW : Hid (∀ wx, Below w2.heap.size w2 wx → ∀ o1, (wx.alloc o1).ownsRow w.heap.size 9 1 u4 acc.length (scells acc)) := fun wx hq o1 => ((A8.out.next hq).next (below1 wx o1)).own
        have BW : Hid (∀ wx, Below w2.heap.size w2 wx → ∀ o1 w9, ((wx.alloc o1).grownBy w9 u4.ownBlock) → Below w.heap.size w w9) := fun wx hq o1 w9 h9 => (chain (chain A8.out.bel hq) (below1 wx o1)).grown h9 (by rw [hsz]; have := A8.out.bel.size; have := hq.size; omega) A8.out.ownB
        have l8 : wr.heap.size < w2.heap.size := Nat.lt_of_lt_of_le l7 B2.out.size
        have hww := A8.out.bel.size
        go_wp2_with (first | (go_at_call 32; refine (CL.out _).mono ?_; rintro e w3 ⟨rfl, b3⟩; have B3 := Seg.hid b3; have s3 := b3.size; clear b3) | (at_builtin; (refine wpList_append_lies _ rfl _ _ 42 rfl w.heap.size 9 i0 _ 1 16 Try.underlying42 hi hz0 hz1 hz2 rfl (by decide) u4 acc.length (scells acc) rfl (OW.out w3 B3.out _) ⟨w3.heap.size, 0, none⟩ 1 1 [.string ln] rfl rfl (World.news_of_block (cs := #[.string ln]) (heap_alloc_new _ _)) (by simp [Value.oneCell']) (by decide) (by unfold maxLen; omega) (by omega) (by rw [hsz]; omega) (w3.heap.size + 1) (by rw [hsz]) ?_; intro g9 cap9 w9 hown9 gr9 hat9 hlt9; have D9 := Seg.hid hown9; have B9 := Seg.hid (BW.out w3 B3.out _ _ gr9); clear hown9 gr9 hat9 hlt9)))
        go_roundw
        case rel => exact ⟨k + 1, acc ++ [ln], by omega, by go_num, (by show _ = _; rw [List.length_append, HQ.out]; rfl), z2, ⟨by rw [List.length_append]; simp only [scells, List.map_append]; exact D9.out, B9.out⟩, A3.out, A2.out⟩
        case measure => simp [intOf]; omega
    · have HE := HR.out.2.2
      rw [List.drop_eq_nil_of_le (by omega), List.map_nil, List.append_nil] at HE
      have HO := HR.out.2.1
      rw [List.drop_eq_nil_of_le (by omega), List.all_nil] at HO
      have TX : Hid (cat acc = texts l) := by show _ = _; rw [texts_cat, HE]
      have SS : Hid (shows l = decide ((cat acc).size ≤ 4000)) := by show _ = _; rw [SH.out, ← HO, TX.out]; rfl
      have AL := Seg.hid HR.out.1
      have CJ : Hid (Calls Try.prog 33 #[u4, .string ⟨#[]⟩] wr fun e w' => e = .returned (.string (cat acc)) ∧ Below wr.heap.size wr w') := join_any w wr u4 acc AL.out (by omega) (by omega)
      clear HE HO HR hcs
      generalize cat acc = tx at *
      by_cases hs : tx.size ≤ 4000
      · have Z : Hid (shows l = true) := by show _ = _; rw [SS.out]; exact decide_eq_true hs
        have f1 : ¬ (4000 : Int) < (tx.size : Int) := by omega
        clear SS
        go_wp2_with (go_at_call 33; refine CJ.out.mono ?_; rintro e w9 ⟨rfl, b9⟩; have B9 := Seg.hid b9; clear b9)
        go_ret2
        exact ⟨by rw [text_yes Z.out, Z.out, ← TX.out]; rfl, chain AL.out.bel B9.out⟩
      · have Z : Hid (shows l = false) := by show _ = _; rw [SS.out]; exact decide_eq_false hs
        have f1 : (4000 : Int) < (tx.size : Int) := by omega
        clear SS
        go_wp2_with (go_at_call 33; refine CJ.out.mono ?_; rintro e w9 ⟨rfl, b9⟩; have B9 := Seg.hid b9; clear b9)
        go_ret2
        exact NO.out _ Z.out (chain AL.out.bel B9.out)
end Go.Proofs.Ytoaobifhiddpkaa.RuI
