/- The program's writeValue. -/
import Derived.BigQuiet
import Derived.Test.YtikfffeiemlnoabJWR37
namespace Go.Proofs.Ytikfffeiemlnoab.WwI
set_option maxRecDepth 8000
open Go.RowKit
open Ls Lp VkP VkR VkI WwP
open SqP (Out app)
open Nums (put)
open PuI (Ext below_grown out_below out_lt out_cell)
open PuT (ints_new nums1 one_in)
open WrP (txt txt_len numsB)
open Recs (hsz below1 below2 below3 chain chainD)
set_option linter.unusedVariables false
/-- What the walk knows of a kind behind the interface that writes. -/
structure Kw (k : Int) (ty K : Nat) (x : Value) : Prop where
  num : K = 110 ∨ K = 105 ∨ K = 115
  ifc : ifc k = .iface ty x
  nil : ∀ w : World, (nilAhead 248 ty x "loop.example/g00035/impl.write").run Try.prog w = .ok (some false) w
  meth : ∀ w : World, (method 248 ty x "loop.example/g00035/impl.write").run Try.prog w = .ok (K, x) w
  calls : ∀ (n : Int) (t : ByteArray) (g cap base : Nat) (out : List Int) (wx : World), has k n t = true → out.length ≤ 900000 → Out wx base g cap out → base ≤ wx.heap.size → Calls Try.prog K #[x, .slice (some ⟨g, 0, none⟩) out.length cap, .agg #[.int .i64 n, .string t]] wx fun e w' => Ext wx w' base g (out ++ itB k n t) e
theorem kw_any (k : Int) (h : kOk k = true) : ∃ ty K x, Kw k ty K x := by
  rcases kOk_cases h with rfl | rfl | rfl | rfl
  · exact ⟨118, 110, .agg #[], by decide, rfl, fun _ => by kernel_rfl, fun _ => by kernel_rfl, fun n t g cap base out wx hh h1 h2 h3 => flagW n t g cap base out wx (has_flag hh) h1 h2 h3⟩
  · exact ⟨117, 105, _, by decide, rfl, fun _ => by kernel_rfl, fun _ => by kernel_rfl, fun n t g cap base out wx hh h1 h2 h3 => numW _ _ n t g cap base out wx (has_num hh (by decide) (by decide)) h1 h2 h3⟩
  · exact ⟨117, 105, _, by decide, rfl, fun _ => by kernel_rfl, fun _ => by kernel_rfl, fun n t g cap base out wx hh h1 h2 h3 => numW _ _ n t g cap base out wx (has_num hh (by decide) (by decide)) h1 h2 h3⟩
  · exact ⟨119, 115, .agg #[], by decide, rfl, fun _ => by kernel_rfl, fun _ => by kernel_rfl, fun n t g cap base out wx hh h1 h2 h3 => textW n t g cap base out wx (Nat.le_trans (has_text hh).2 (by decide)) h1 h2 h3⟩
/-- A row that is written: two boxes lie behind the world of the call. -/
structure Ro (w wx : World) (base g : Nat) (l : List Int) (gx cap : Nat) : Prop where
  out : Out wx base gx cap l
  gr : w.grownBy wx (some g)
  at' : gx = g ∨ w.heap.size + 2 ≤ gx
  sz : w.heap.size + 2 ≤ wx.heap.size
  lt : g < w.heap.size
  base : base ≤ w.heap.size
theorem Ro.below {w wx w' : World} {base g gx cap : Nat} {l : List Int} (h : Ro w wx base g l gx cap) (hb : Below wx.heap.size wx w') : Ro w w' base g l gx cap :=
  ⟨out_below h.out hb, h.gr.trans (below_grown hb _), h.at', Nat.le_trans h.sz hb.size, h.lt, h.base⟩
theorem Ro.step {w wx w' : World} {base g gx cap : Nat} {l l' : List Int} {e : Ending} (h : Ro w wx base g l gx cap) (E : Ext wx w' base gx l' e) : ∃ g' cap', e = .returned (.slice (some ⟨g', 0, none⟩) l'.length cap') ∧ Ro w w' base g l' g' cap' := by
  obtain ⟨⟨g', cap', rfl, o, h1⟩, gr⟩ := E
  have s1 := h.sz
  have s2 := h.at'
  have s3 := gr.size
  exact ⟨g', cap', rfl, o, SqP.grow h.gr gr (by omega), by omega, by omega, h.lt, h.base⟩
theorem Ro.ext {w wx : World} {base g gx cap n : Nat} {l : List Int} (h : Ro w wx base g l gx cap) (hn : n = l.length) : Ext w wx base g l (.returned (.slice (some ⟨gx, 0, none⟩) n cap)) :=
  ⟨⟨gx, cap, by rw [hn], h.out, by have := h.at'; omega⟩, h.gr⟩
theorem Ro.ne {w wx : World} {base g gx cap : Nat} {l : List Int} (h : Ro w wx base g l gx cap) : w.heap.size + 1 ≠ gx := by
  have := h.at'
  have := h.lt
  omega
theorem Ro.bel {w wx : World} {base g gx cap : Nat} {l : List Int} (h : Ro w wx base g l gx cap) (hg : base ≤ g) : Below base w wx :=
  (Below.refl base w).grown h.gr h.base (fun k hk => by cases hk; exact hg)
theorem five2 {w1 : World} {gb : Nat} {u : Vlu} {A : Option Addr} {c : Nat} (h : w1.heap[gb]? = some (.cells (vrow u A c) 58 (0, 0))) : w1.cell? ⟨gb, 0, none⟩ = some (.int .i64 u.kind) ∧ w1.cell? ⟨gb, 1, none⟩ = some (.int .i64 u.num) ∧ w1.cell? ⟨gb, 2, none⟩ = some (.string u.text) ∧ w1.cell? ⟨gb, 3, none⟩ = some (.bool u.lst) ∧ w1.cell? ⟨gb, 4, none⟩ = some (.slice A u.items.length c) :=
  ⟨cell_of_row w1 _ 0 _ _ (0, 0) h, cell_of_row w1 _ 1 _ _ (0, 0) h, cell_of_row w1 _ 2 _ _ (0, 0) h, cell_of_row w1 _ 3 _ _ (0, 0) h, cell_of_row w1 _ 4 _ _ (0, 0) h⟩
/-- Of a list the first k items are written. -/
structure It (w w4 wr : World) (base g : Nat) (kd : Int) (us : List Itm) (l2 : List Int) (k : Nat) (v : Value) : Prop where
  le : k ≤ us.length
  ro : ∃ gx cap cur, v = .slice (some ⟨gx, 0, none⟩) cur.length cap ∧ Ro w wr base g cur gx cap ∧ cur = l2 ++ itsB kd (us.take k)
set_option maxHeartbeats 12800000 in
theorem value_w (f : Fld) (u : Vlu) (A A' B' : Option Addr) (c c' d' g cap base : Nat) (out : List Int) (w : World) (S : Nat → Prop) (hi : LAt 2 EItm w S (.slice A u.items.length c) u.items) (hS : ∀ x, S x → x < base) (hok : vok u = true) (ho1 : out.length ≤ 600000) (ho : Out w base g cap out) (hbase : base ≤ w.heap.size) :
    Calls Try.prog 39 #[.slice (some ⟨g, 0, none⟩) out.length cap, .agg (frow f A' c' B' d'), .agg (vrow u A c)] w fun e w' => Ext w w' base g (out ++ valB f.may u) e := by
  have HO := Seg.hid ho
  have HI := Seg.hid hi
  have hgl := (out_lt ho).2
  have hgb := (out_lt ho).1
  clear ho hi
  obtain ⟨L, hL⟩ : ∃ L, out ++ valB f.may u = L := ⟨_, rfl⟩
  rw [hL]
  have HL := Seg.hid hL
  clear hL
  have start : Hid (∀ w1, Below (((w.alloc (.cells (frow f A' c' B' d') 60 (0, 0))).alloc (.cells (vrow u A c) 58 (0, 0))).heap.size) ((w.alloc (.cells (frow f A' c' B' d') 60 (0, 0))).alloc (.cells (vrow u A c) 58 (0, 0))) w1 → Ro w w1 base g out g cap) := fun w1 b1 => by
    have hb := chain (below2 w _ _) b1
    have := b1.size
    rw [hsz, hsz] at this
    exact ⟨out_below HO.out hb, below_grown hb _, .inl rfl, by omega, hgl, hbase⟩
  go_enter Try.func39, Try.ntmps39
  cases hk : kOk u.kind with
  | false =>
    have HK := Seg.hid hk
    have HV : Hid (L = out ++ [0]) := by show _ = _; rw [← HL.out, valB, hk]; rfl
    clear hk
    go_wp2_with fail
    refine (kind_no _ _ HK.out).mono ?_
    rintro e w1 ⟨rfl, b1⟩
    have RO := Seg.hid (start.out w1 b1)
    have hb1 : base ≤ w1.heap.size := by have := RO.out.sz; omega
    clear b1 start
    go_wp2_with (at_builtin; refine app rfl (.tmp 19) (.tmp 20) rfl base g cap out [0] ?zzs ?zzo ⟨w1.heap.size, 0, none⟩ 1 ?zzx ?zzn ?zzm ?zzb ?zzba ?_; (case zzs => rfl); (case zzo => exact World.ownsRow.alloc RO.out.out _); (case zzx => rfl); (case zzn => exact SqP.one_new w1 _ _); (case zzm => decide); (case zzb => simp; omega); (case zzba => simp; omega); intro g3 cap3 w3 o3 gr3 at3; have EX : Hid (Ext w w3 base g L (.returned (.slice (some ⟨g3, 0, none⟩) (out.length + 1) cap3))) := (by rw [HV.out]; have s3 := RO.out.sz; exact PuT.Ext.more (RO.out.gr.trans (below_grown (below1 w1 _) (some g))) (.inl rfl) o3 gr3 at3 (by simp) : Ext w w3 base g L (.returned (.slice (some ⟨g3, 0, none⟩) (out.length + 1) cap3))); clear o3 gr3 at3)
    go_ret
    exact EX.out
  | true =>
  obtain ⟨ty, K, x, KN⟩ := kw_any _ hk
  have hif := KN.ifc
  have hnum := KN.num
  have hni := KN.nil
  have hme := KN.meth
  have CW := Seg.hid KN.calls
  clear KN
  have HK := Seg.hid hk
  have HV : Hid (L = (out ++ if f.may = true then [1] else []) ++ vaB u) := by show _ = _; rw [← HL.out, valB, if_pos hk, List.append_assoc]
  have VL := Seg.hid (fun hl => vok_list hk hl hok)
  have VO := Seg.hid (fun hl => vok_one hk hl hok)
  clear hk HL hok
  go_wp2_with fail
  refine (kind_yes _ _ HK.out).mono ?_
  rintro e w1 ⟨rfl, b1⟩
  rw [hif]
  clear hif
  have RO := Seg.hid (start.out w1 b1)
  have c5 := (b1.block w.heap.size (by rw [hsz, hsz]; omega)).trans (at2z w _ _)
  have c3m : w1.cell? ⟨w.heap.size, 3, none⟩ = some (.bool f.may) := cell_of_row w1 _ 3 _ _ (0, 0) c5
  obtain ⟨c0, c1, c2, c3, c4⟩ := five2 ((b1.block (w.heap.size + 1) (by rw [hsz, hsz]; omega)).trans (at2y w _ _))
  have hb1 : base ≤ w1.heap.size := by have := RO.out.sz; omega
  clear b1 c5 start
  cases hm : f.may with
  | false =>
    have HW : Hid (L = (out ++ []) ++ vaB u) := by show _ = _; rw [HV.out, hm]; rfl
    rw [hm] at c3m
    clear hm HV
    cases hl : u.lst with
    | false =>
      rw [hl] at c3
      have HZ : Hid (L = (out ++ []) ++ (itB u.kind u.num u.text)) := by show _ = _; rw [HW.out, vaB, hl]; rfl
      have HH := Seg.hid (VO.out hl)
      clear HW hl VL VO
      go_upto_region 7 with fail
      obtain ⟨wa, hwa⟩ : ∃ wa, w1 = wa := ⟨_, rfl⟩
      obtain ⟨g1, hg1⟩ : ∃ g1, g = g1 := ⟨_, rfl⟩
      obtain ⟨l1, hl1⟩ : ∃ l1, out = l1 := ⟨_, rfl⟩
      obtain ⟨cap1, hc1⟩ : ∃ cap1, cap = cap1 := ⟨_, rfl⟩
      have RA : Hid (Ro w wa base g l1 g1 cap1) := by rw [← hwa, ← hg1, ← hl1, ← hc1]; exact RO.out
      have hll : l1.length ≤ out.length + 1 := by rw [← hl1]; omega
      rw [List.append_nil] at HZ
      have HZ2 : Hid (L = l1 ++ (itB u.kind u.num u.text)) := by rw [← hl1]; exact HZ.out
      clear HZ
      have HZ := HZ2
      clear HZ2
      clear RO
      subst hwa hg1 hc1 hl1
      have hza := RA.out.sz
      have hlt1 : w.heap.size + 1 < w1.heap.size := by omega
      rcases hnum with rfl | rfl | rfl
      all_goals
        go_region_held3 (fun w' => w'.cell? ⟨w.heap.size + 1, 0, none⟩ = some (.int .i64 u.kind) ∧ w'.cell? ⟨w.heap.size + 1, 1, none⟩ = some (.int .i64 u.num) ∧ w'.cell? ⟨w.heap.size + 1, 2, none⟩ = some (.string u.text) ∧ w'.cell? ⟨w.heap.size + 1, 3, none⟩ = some (.bool false) ∧ w'.cell? ⟨w.heap.size + 1, 4, none⟩ = some (.slice A u.items.length c)) (first | exact ⟨c0, c1, c2, c3, c4⟩ | exact ⟨d0, d1, d2, d3, d4⟩ | exact ⟨e0, e1, e2, e3, e4⟩ | go_keep) (first | (go_at_call 68; refine (only_any _ _ _ _ _ _).mono ?_; rintro e w2 ⟨rfl, b2'⟩; have b2 : Below w1.heap.size w1 w2 := ⟨b2'.os, b2'.tape, b2'.output, b2'.size, b2'.block⟩; have R2 := Seg.hid (RA.out.below b2); have s2 : w1.heap.size ≤ w2.heap.size := b2.size; have d0 := (b2.cell (p := ⟨w.heap.size + 1, 0, none⟩) hlt1).trans c0; have d1 := (b2.cell (p := ⟨w.heap.size + 1, 1, none⟩) hlt1).trans c1; have d2 := (b2.cell (p := ⟨w.heap.size + 1, 2, none⟩) hlt1).trans c2; have d3 := (b2.cell (p := ⟨w.heap.size + 1, 3, none⟩) hlt1).trans c3; have d4 := (b2.cell (p := ⟨w.heap.size + 1, 4, none⟩) hlt1).trans c4; clear b2 b2') | ((first | go_at_call 110 | go_at_call 105 | go_at_call 115); refine (CW.out _ _ _ _ base _ _ HH.out (by omega) R2.out.out (by have := R2.out.base; have := R2.out.sz; omega)).mono ?_; rintro e w3 hE; have e0 := kept1 d0 hE.gr R2.out.ne; have e1 := kept1 d1 hE.gr R2.out.ne; have e2 := kept1 d2 hE.gr R2.out.ne; have e3 := kept1 d3 hE.gr R2.out.ne; have e4 := kept1 d4 hE.gr R2.out.ne; have hR := R2.out.step hE; clear hE; rw [← HZ.out] at hR; obtain ⟨g3, cap3, rfl, r3⟩ := hR; have R3 := Seg.hid r3; clear r3))
        all_goals
          (try go_wp2)
          go_ret
          exact R3.out.ext rfl
    | true =>
      rw [hl] at c3
      have HZ : Hid (L = (out ++ []) ++ (put (u.items.length : Int) ++ itsB u.kind u.items)) := by show _ = _; rw [HW.out, vaB, hl]; rfl
      obtain ⟨h30, hall⟩ := VL.out hl
      have HALL := Seg.hid hall
      clear hall
      clear HW hl VL VO
      go_upto_region 8 with fail
      obtain ⟨wa, hwa⟩ : ∃ wa, w1 = wa := ⟨_, rfl⟩
      obtain ⟨g1, hg1⟩ : ∃ g1, g = g1 := ⟨_, rfl⟩
      obtain ⟨l1, hl1⟩ : ∃ l1, out = l1 := ⟨_, rfl⟩
      obtain ⟨cap1, hc1⟩ : ∃ cap1, cap = cap1 := ⟨_, rfl⟩
      have RA : Hid (Ro w wa base g l1 g1 cap1) := by rw [← hwa, ← hg1, ← hl1, ← hc1]; exact RO.out
      have hll : l1.length ≤ out.length + 1 := by rw [← hl1]; omega
      rw [List.append_nil] at HZ
      have HZ2 : Hid (L = l1 ++ (put (u.items.length : Int) ++ itsB u.kind u.items)) := by rw [← hl1]; exact HZ.out
      clear HZ
      have HZ := HZ2
      clear HZ2
      clear RO
      subst hwa hg1 hc1 hl1
      have hza := RA.out.sz
      have hlt1 : w.heap.size + 1 < w1.heap.size := by omega
      go_wp2_with fail
      refine (ints_new g cap base out [(u.items.length : Int)] w1 3 _ rfl (by simp) (by omega) (one_in (by omega)) RA.out.out (by have := RA.out.base; omega)).mono ?_
      rintro e w4 hE
      rw [nums1] at hE
      obtain ⟨l2, hl2⟩ : ∃ l2, out ++ put (u.items.length : Int) = l2 := ⟨_, rfl⟩
      have hl2l : l2.length ≤ 600020 := by have := put10 (n := (u.items.length : Int)) (by omega); rw [← hl2, List.length_append]; omega
      rw [hl2] at hE
      have HY : Hid (L = l2 ++ itsB u.kind u.items) := by show _ = _; rw [← hl2, HZ.out, List.append_assoc]
      clear HZ hl2
      have e4 := kept1 c4 hE.gr RA.out.ne
      have hR := RA.out.step hE
      clear hE
      obtain ⟨g2, cap2, rfl, r2⟩ := hR
      have R2 := Seg.hid r2
      clear r2 RA c0 c1 c2 c3 c4 hll hlt1
      rcases hnum with rfl | rfl | rfl
      all_goals
        go_wp2
        go_loopw [0, 47] (fun v i wr => ∃ k : Nat, i = .int .i64 k ∧ It w w4 wr base g u.kind u.items l2 k v) (fun _ i _ => u.items.length - (intOf i).toNat)
        case atStart => exact ⟨0, rfl, Nat.zero_le _, g2, cap2, l2, rfl, R2.out, by rw [itsB_zero, List.append_nil]⟩
        case round =>
          obtain ⟨k, rfl, IT⟩ := hrel
          have hk := IT.le
          obtain ⟨gx, cx, cur, rfl, rx, hcur⟩ := IT.ro
          have RX := Seg.hid rx
          have HC := Seg.hid hcur
          clear IT rx hcur
          by_cases hlt : k < u.items.length
          · have hb : Below base w wr := RX.out.bel hgb
            have hsx := RX.out.sz
            have hIr := LAt.below keepsItm HI.out hb hS
            obtain ⟨A9, c9, gi, oi, F9, e9, OP, hn9⟩ := opn hIr (fun x hx => by have := hS x hx; omega)
            simp only [Value.slice.injEq, true_and] at e9
            obtain ⟨rfl, rfl⟩ := e9
            obtain ⟨ea, hcc, hgi⟩ := OP.addr.resolve_left (by omega)
            subst ea
            obtain ⟨i0, i1⟩ := itm_at OP (fun x hx => by have := hS x hx; omega) (Below.refl _ _) hlt
            have HX : Hid (has u.kind (u.items.getD k default).num (u.items.getD k default).text = true) := by
              show _ = true
              have := List.all_eq_true.1 HALL.out u.items[k] (List.getElem_mem hlt)
              simpa [hlt, hasI] using this
            have NX := Seg.hid (itsB_next (k := u.kind) hlt)
            have CL : Hid (cur.length ≤ 604000) := by
              show _ ≤ _
              have := itsB_len HALL.out k hk
              rw [HC.out, List.length_append]
              omega
            have h0 : (0 : Int) ≤ (k : Int) := by omega
            have h1 : (k : Int) < (u.items.length : Int) := by omega
            clear hb hIr OP hn9
            generalize u.items.getD k default = it at *
            go_wp2_with fail
            refine (CW.out _ _ _ _ base _ _ HX.out (by have := CL.out; omega) (RX.out.below (below1 wr _)).out (by have := RX.out.base; rw [hsz]; omega)).mono ?_
            rintro e w5 hE
            obtain ⟨l5, hl5⟩ : ∃ l5, cur ++ itB u.kind it.num it.text = l5 := ⟨_, rfl⟩
            rw [hl5] at hE
            have H5 : Hid (l5 = l2 ++ itsB u.kind (u.items.take (k + 1))) := by show _ = _; rw [← hl5, HC.out, NX.out, List.append_assoc]
            have hR := (RX.out.below (below1 wr _)).step hE
            clear hE hl5
            obtain ⟨g5, cap5, rfl, r5⟩ := hR
            have R5 := Seg.hid r5
            clear r5
            go_wp2
            go_roundw
            case rel => exact ⟨k + 1, by go_num, by omega, g5, cap5, l5, rfl, R5.out, H5.out⟩
            case measure => simp [intOf]; omega
          · have hkl : k = u.items.length := by omega
            have HE : Hid (cur = L) := by show _ = _; rw [HC.out, HY.out, hkl, List.take_length]
            clear hkl
            go_wp2
            go_ret
            rw [← HE.out]
            exact RX.out.ext rfl
  | true =>
    have HW : Hid (L = (out ++ [1]) ++ vaB u) := by show _ = _; rw [HV.out, hm]; rfl
    rw [hm] at c3m
    clear hm HV
    cases hl : u.lst with
    | false =>
      rw [hl] at c3
      have HZ : Hid (L = (out ++ [1]) ++ (itB u.kind u.num u.text)) := by show _ = _; rw [HW.out, vaB, hl]; rfl
      have HH := Seg.hid (VO.out hl)
      clear HW hl VL VO
      go_upto_region 7 with (at_builtin; refine app rfl (.tmp 24) (.tmp 25) rfl base g cap out [1] ?zzs ?zzo ⟨w1.heap.size, 0, none⟩ 1 ?zzx ?zzn ?zzm ?zzb ?zzba ?_; (case zzs => rfl); (case zzo => exact World.ownsRow.alloc RO.out.out _); (case zzx => rfl); (case zzn => exact SqP.one_new w1 _ _); (case zzm => decide); (case zzb => simp; omega); (case zzba => simp; omega); intro g1 cap1 wa o3 gr3 at3; have E3 : Hid (Ext w1 wa base g (out ++ [1]) (.returned (.slice (some ⟨g1, 0, none⟩) (out ++ [1]).length cap1))) := PuT.Ext.more (below_grown (below1 w1 _) (some g)) (.inl rfl) o3 gr3 at3 rfl; clear o3 gr3 at3; replace c0 := kept1 c0 E3.out.gr RO.out.ne; replace c1 := kept1 c1 E3.out.gr RO.out.ne; replace c2 := kept1 c2 E3.out.gr RO.out.ne; replace c3 := kept1 c3 E3.out.gr RO.out.ne; replace c4 := kept1 c4 E3.out.gr RO.out.ne)
      have RA : Hid (Ro w wa base g (out ++ [1]) g1 cap1) := by
        obtain ⟨ga, ca, ea, h⟩ := RO.out.step E3.out
        simp only [Ending.returned.injEq, Value.slice.injEq, Option.some.injEq, Addr.mk.injEq, and_true, true_and] at ea
        obtain ⟨rfl, rfl⟩ := ea
        exact h
      clear RO E3
      obtain ⟨l1, hl1⟩ : ∃ l1, out ++ [1] = l1 := ⟨_, rfl⟩
      have hll : l1.length = out.length + 1 := by rw [← hl1]; simp
      rw [hl1] at HZ RA
      try rw [← hll]
      have hll2 : l1.length ≤ 600001 := by omega
      clear hl1 hll
      have hll := hll2
      have hza := RA.out.sz
      have hlt1 : w.heap.size + 1 < wa.heap.size := by omega
      rcases hnum with rfl | rfl | rfl
      all_goals
        go_region_held3 (fun w' => w'.cell? ⟨w.heap.size + 1, 0, none⟩ = some (.int .i64 u.kind) ∧ w'.cell? ⟨w.heap.size + 1, 1, none⟩ = some (.int .i64 u.num) ∧ w'.cell? ⟨w.heap.size + 1, 2, none⟩ = some (.string u.text) ∧ w'.cell? ⟨w.heap.size + 1, 3, none⟩ = some (.bool false) ∧ w'.cell? ⟨w.heap.size + 1, 4, none⟩ = some (.slice A u.items.length c)) (first | exact ⟨c0, c1, c2, c3, c4⟩ | exact ⟨d0, d1, d2, d3, d4⟩ | exact ⟨e0, e1, e2, e3, e4⟩ | go_keep) (first | (go_at_call 68; refine (only_any _ _ _ _ _ _).mono ?_; rintro e w2 ⟨rfl, b2'⟩; have b2 : Below wa.heap.size wa w2 := ⟨b2'.os, b2'.tape, b2'.output, b2'.size, b2'.block⟩; have R2 := Seg.hid (RA.out.below b2); have s2 : wa.heap.size ≤ w2.heap.size := b2.size; have d0 := (b2.cell (p := ⟨w.heap.size + 1, 0, none⟩) hlt1).trans c0; have d1 := (b2.cell (p := ⟨w.heap.size + 1, 1, none⟩) hlt1).trans c1; have d2 := (b2.cell (p := ⟨w.heap.size + 1, 2, none⟩) hlt1).trans c2; have d3 := (b2.cell (p := ⟨w.heap.size + 1, 3, none⟩) hlt1).trans c3; have d4 := (b2.cell (p := ⟨w.heap.size + 1, 4, none⟩) hlt1).trans c4; clear b2 b2') | ((first | go_at_call 110 | go_at_call 105 | go_at_call 115); refine (CW.out _ _ _ _ base _ _ HH.out (by omega) R2.out.out (by have := R2.out.base; have := R2.out.sz; omega)).mono ?_; rintro e w3 hE; have e0 := kept1 d0 hE.gr R2.out.ne; have e1 := kept1 d1 hE.gr R2.out.ne; have e2 := kept1 d2 hE.gr R2.out.ne; have e3 := kept1 d3 hE.gr R2.out.ne; have e4 := kept1 d4 hE.gr R2.out.ne; have hR := R2.out.step hE; clear hE; rw [← HZ.out] at hR; obtain ⟨g3, cap3, rfl, r3⟩ := hR; have R3 := Seg.hid r3; clear r3))
        all_goals
          (try go_wp2)
          go_ret
          exact R3.out.ext rfl
    | true =>
      rw [hl] at c3
      have HZ : Hid (L = (out ++ [1]) ++ (put (u.items.length : Int) ++ itsB u.kind u.items)) := by show _ = _; rw [HW.out, vaB, hl]; rfl
      obtain ⟨h30, hall⟩ := VL.out hl
      have HALL := Seg.hid hall
      clear hall
      clear HW hl VL VO
      go_upto_region 8 with (at_builtin; refine app rfl (.tmp 24) (.tmp 25) rfl base g cap out [1] ?zzs ?zzo ⟨w1.heap.size, 0, none⟩ 1 ?zzx ?zzn ?zzm ?zzb ?zzba ?_; (case zzs => rfl); (case zzo => exact World.ownsRow.alloc RO.out.out _); (case zzx => rfl); (case zzn => exact SqP.one_new w1 _ _); (case zzm => decide); (case zzb => simp; omega); (case zzba => simp; omega); intro g1 cap1 wa o3 gr3 at3; have E3 : Hid (Ext w1 wa base g (out ++ [1]) (.returned (.slice (some ⟨g1, 0, none⟩) (out ++ [1]).length cap1))) := PuT.Ext.more (below_grown (below1 w1 _) (some g)) (.inl rfl) o3 gr3 at3 rfl; clear o3 gr3 at3; replace c0 := kept1 c0 E3.out.gr RO.out.ne; replace c1 := kept1 c1 E3.out.gr RO.out.ne; replace c2 := kept1 c2 E3.out.gr RO.out.ne; replace c3 := kept1 c3 E3.out.gr RO.out.ne; replace c4 := kept1 c4 E3.out.gr RO.out.ne)
      have RA : Hid (Ro w wa base g (out ++ [1]) g1 cap1) := by
        obtain ⟨ga, ca, ea, h⟩ := RO.out.step E3.out
        simp only [Ending.returned.injEq, Value.slice.injEq, Option.some.injEq, Addr.mk.injEq, and_true, true_and] at ea
        obtain ⟨rfl, rfl⟩ := ea
        exact h
      clear RO E3
      obtain ⟨l1, hl1⟩ : ∃ l1, out ++ [1] = l1 := ⟨_, rfl⟩
      have hll : l1.length = out.length + 1 := by rw [← hl1]; simp
      rw [hl1] at HZ RA
      try rw [← hll]
      have hll2 : l1.length ≤ 600001 := by omega
      clear hl1 hll
      have hll := hll2
      have hza := RA.out.sz
      have hlt1 : w.heap.size + 1 < wa.heap.size := by omega
      go_wp2_with fail
      refine (ints_new g1 cap1 base l1 [(u.items.length : Int)] wa 3 _ rfl (by simp) (by omega) (one_in (by omega)) RA.out.out (by have := RA.out.base; omega)).mono ?_
      rintro e w4 hE
      rw [nums1] at hE
      obtain ⟨l2, hl2⟩ : ∃ l2, l1 ++ put (u.items.length : Int) = l2 := ⟨_, rfl⟩
      have hl2l : l2.length ≤ 600020 := by have := put10 (n := (u.items.length : Int)) (by omega); rw [← hl2, List.length_append]; omega
      rw [hl2] at hE
      have HY : Hid (L = l2 ++ itsB u.kind u.items) := by show _ = _; rw [← hl2, HZ.out, List.append_assoc]
      clear HZ hl2
      have e4 := kept1 c4 hE.gr RA.out.ne
      have hR := RA.out.step hE
      clear hE
      obtain ⟨g2, cap2, rfl, r2⟩ := hR
      have R2 := Seg.hid r2
      clear r2 RA c0 c1 c2 c3 c4 hll hlt1
      rcases hnum with rfl | rfl | rfl
      all_goals
        go_wp2
        go_loopw [0, 47] (fun v i wr => ∃ k : Nat, i = .int .i64 k ∧ It w w4 wr base g u.kind u.items l2 k v) (fun _ i _ => u.items.length - (intOf i).toNat)
        case atStart => exact ⟨0, rfl, Nat.zero_le _, g2, cap2, l2, rfl, R2.out, by rw [itsB_zero, List.append_nil]⟩
        case round =>
          obtain ⟨k, rfl, IT⟩ := hrel
          have hk := IT.le
          obtain ⟨gx, cx, cur, rfl, rx, hcur⟩ := IT.ro
          have RX := Seg.hid rx
          have HC := Seg.hid hcur
          clear IT rx hcur
          by_cases hlt : k < u.items.length
          · have hb : Below base w wr := RX.out.bel hgb
            have hsx := RX.out.sz
            have hIr := LAt.below keepsItm HI.out hb hS
            obtain ⟨A9, c9, gi, oi, F9, e9, OP, hn9⟩ := opn hIr (fun x hx => by have := hS x hx; omega)
            simp only [Value.slice.injEq, true_and] at e9
            obtain ⟨rfl, rfl⟩ := e9
            obtain ⟨ea, hcc, hgi⟩ := OP.addr.resolve_left (by omega)
            subst ea
            obtain ⟨i0, i1⟩ := itm_at OP (fun x hx => by have := hS x hx; omega) (Below.refl _ _) hlt
            have HX : Hid (has u.kind (u.items.getD k default).num (u.items.getD k default).text = true) := by
              show _ = true
              have := List.all_eq_true.1 HALL.out u.items[k] (List.getElem_mem hlt)
              simpa [hlt, hasI] using this
            have NX := Seg.hid (itsB_next (k := u.kind) hlt)
            have CL : Hid (cur.length ≤ 604000) := by
              show _ ≤ _
              have := itsB_len HALL.out k hk
              rw [HC.out, List.length_append]
              omega
            have h0 : (0 : Int) ≤ (k : Int) := by omega
            have h1 : (k : Int) < (u.items.length : Int) := by omega
            clear hb hIr OP hn9
            generalize u.items.getD k default = it at *
            go_wp2_with fail
            refine (CW.out _ _ _ _ base _ _ HX.out (by have := CL.out; omega) (RX.out.below (below1 wr _)).out (by have := RX.out.base; rw [hsz]; omega)).mono ?_
            rintro e w5 hE
            obtain ⟨l5, hl5⟩ : ∃ l5, cur ++ itB u.kind it.num it.text = l5 := ⟨_, rfl⟩
            rw [hl5] at hE
            have H5 : Hid (l5 = l2 ++ itsB u.kind (u.items.take (k + 1))) := by show _ = _; rw [← hl5, HC.out, NX.out, List.append_assoc]
            have hR := (RX.out.below (below1 wr _)).step hE
            clear hE hl5
            obtain ⟨g5, cap5, rfl, r5⟩ := hR
            have R5 := Seg.hid r5
            clear r5
            go_wp2
            go_roundw
            case rel => exact ⟨k + 1, by go_num, by omega, g5, cap5, l5, rfl, R5.out, H5.out⟩
            case measure => simp [intOf]; omega
          · have hkl : k = u.items.length := by omega
            have HE : Hid (cur = L) := by show _ = _; rw [HC.out, HY.out, hkl, List.take_length]
            clear hkl
            go_wp2
            go_ret
            rw [← HE.out]
            exact RX.out.ext rfl
end Go.Proofs.Ytikfffeiemlnoab.WwI
