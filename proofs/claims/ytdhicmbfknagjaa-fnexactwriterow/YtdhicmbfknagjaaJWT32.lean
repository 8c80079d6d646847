/- The program's writeValue; The program's WriteRow. -/
import Derived.BigQuiet
import Derived.Test.YtdhicmbfknagjaaJWT31
import Derived.Test.YtdhicmbfknagjaaJWT28
import Derived.Test.YtdhicmbfknagjaaJWT30
import Derived.Test.YtdhicmbfknagjaaJWT27
namespace Go.Proofs.Ytdhicmbfknagjaa.WwI
set_option maxRecDepth 8000
open Go.RowKit
open Ls Lp VkP VkR VkI WwP
open SqP (Out app)
open Nums (put)
open PuI (Ext below_grown out_below out_lt out_cell)
open PuT (ints_new nums1 one_in)
open WrP (txt txt_len numsB)
open Recs (hsz below1 below2 below3 chain chainD)
set_option linter.unusedVariables false
/-- What the walk knows of a kind behind the interface that writes. -/
structure Kw (k : Int) (ty K : Nat) (x : Value) : Prop where
  num : K = 183 ∨ K = 178 ∨ K = 188
  ifc : ifc k = .iface ty x
  nil : ∀ w : World, (nilAhead 343 ty x "loop.example/g00035/impl.write").run Try.prog w = .ok (some false) w
  meth : ∀ w : World, (method 343 ty x "loop.example/g00035/impl.write").run Try.prog w = .ok (K, x) w
  calls : ∀ (n : Int) (t : ByteArray) (g cap base : Nat) (out : List Int) (wx : World), has k n t = true → out.length ≤ 900000 → Out wx base g cap out → base ≤ wx.heap.size → Calls Try.prog K #[x, .slice (some ⟨g, 0, none⟩) out.length cap, .agg #[.int .i64 n, .string t]] wx fun e w' => Ext wx w' base g (out ++ itB k n t) e
theorem kw_any (k : Int) (h : kOk k = true) : ∃ ty K x, Kw k ty K x := by
  rcases kOk_cases h with rfl | rfl | rfl | rfl
  · exact ⟨179, 183, .agg #[], by decide, rfl, fun _ => by kernel_rfl, fun _ => by kernel_rfl, fun n t g cap base out wx hh h1 h2 h3 => flagW n t g cap base out wx (has_flag hh) h1 h2 h3⟩
  · exact ⟨178, 178, _, by decide, rfl, fun _ => by kernel_rfl, fun _ => by kernel_rfl, fun n t g cap base out wx hh h1 h2 h3 => numW _ _ n t g cap base out wx (has_num hh (by decide) (by decide)) h1 h2 h3⟩
  · exact ⟨178, 178, _, by decide, rfl, fun _ => by kernel_rfl, fun _ => by kernel_rfl, fun n t g cap base out wx hh h1 h2 h3 => numW _ _ n t g cap base out wx (has_num hh (by decide) (by decide)) h1 h2 h3⟩
  · exact ⟨180, 188, .agg #[], by decide, rfl, fun _ => by kernel_rfl, fun _ => by kernel_rfl, fun n t g cap base out wx hh h1 h2 h3 => textW n t g cap base out wx (Nat.le_trans (has_text hh).2 (by decide)) h1 h2 h3⟩
/-- A row that is written: two boxes lie behind the world of the call. -/
structure Ro (w wx : World) (base g : Nat) (l : List Int) (gx cap : Nat) : Prop where
  out : Out wx base gx cap l
  gr : w.grownBy wx (some g)
  at' : gx = g ∨ w.heap.size + 2 ≤ gx
  sz : w.heap.size + 2 ≤ wx.heap.size
  lt : g < w.heap.size
  base : base ≤ w.heap.size
theorem Ro.below {w wx w' : World} {base g gx cap : Nat} {l : List Int} (h : Ro w wx base g l gx cap) (hb : Below wx.heap.size wx w') : Ro w w' base g l gx cap :=
  ⟨out_below h.out hb, h.gr.trans (below_grown hb _), h.at', Nat.le_trans h.sz hb.size, h.lt, h.base⟩
theorem Ro.step {w wx w' : World} {base g gx cap : Nat} {l l' : List Int} {e : Ending} (h : Ro w wx base g l gx cap) (E : Ext wx w' base gx l' e) : ∃ g' cap', e = .returned (.slice (some ⟨g', 0, none⟩) l'.length cap') ∧ Ro w w' base g l' g' cap' := by
  obtain ⟨⟨g', cap', rfl, o, h1⟩, gr⟩ := E
  have s1 := h.sz
  have s2 := h.at'
  have s3 := gr.size
  exact ⟨g', cap', rfl, o, SqP.grow h.gr gr (by omega), by omega, by omega, h.lt, h.base⟩
theorem Ro.ext {w wx : World} {base g gx cap n : Nat} {l : List Int} (h : Ro w wx base g l gx cap) (hn : n = l.length) : Ext w wx base g l (.returned (.slice (some ⟨gx, 0, none⟩) n cap)) :=
  ⟨⟨gx, cap, by rw [hn], h.out, by have := h.at'; omega⟩, h.gr⟩
theorem Ro.ne {w wx : World} {base g gx cap : Nat} {l : List Int} (h : Ro w wx base g l gx cap) : w.heap.size + 1 ≠ gx := by
  have := h.at'
  have := h.lt
  omega
theorem Ro.bel {w wx : World} {base g gx cap : Nat} {l : List Int} (h : Ro w wx base g l gx cap) (hg : base ≤ g) : Below base w wx :=
  (Below.refl base w).grown h.gr h.base (fun k hk => by cases hk; exact hg)
theorem five2 {w1 : World} {gb : Nat} {u : Vlu} {A : Option Addr} {c : Nat} (h : w1.heap[gb]? = some (.cells (vrow u A c) 84 (0, 0))) : w1.cell? ⟨gb, 0, none⟩ = some (.int .i64 u.kind) ∧ w1.cell? ⟨gb, 1, none⟩ = some (.int .i64 u.num) ∧ w1.cell? ⟨gb, 2, none⟩ = some (.string u.text) ∧ w1.cell? ⟨gb, 3, none⟩ = some (.bool u.lst) ∧ w1.cell? ⟨gb, 4, none⟩ = some (.slice A u.items.length c) :=
  ⟨cell_of_row w1 _ 0 _ _ (0, 0) h, cell_of_row w1 _ 1 _ _ (0, 0) h, cell_of_row w1 _ 2 _ _ (0, 0) h, cell_of_row w1 _ 3 _ _ (0, 0) h, cell_of_row w1 _ 4 _ _ (0, 0) h⟩
/-- Of a list the first k items are written. -/
structure It (w w4 wr : World) (base g : Nat) (kd : Int) (us : List Itm) (l2 : List Int) (k : Nat) (v : Value) : Prop where
  le : k ≤ us.length
  ro : ∃ gx cap cur, v = .slice (some ⟨gx, 0, none⟩) cur.length cap ∧ Ro w wr base g cur gx cap ∧ cur = l2 ++ itsB kd (us.take k)
set_option maxHeartbeats 12800000 in
theorem value_w (f : Fld) (u : Vlu) (A A' B' : Option Addr) (c c' d' g cap base : Nat) (out : List Int) (w : World) (S : Nat → Prop) (hi : LAt 2 EItm w S (.slice A u.items.length c) u.items) (hS : ∀ x, S x → x < base) (hok : vok u = true) (ho1 : out.length ≤ 600000) (ho : Out w base g cap out) (hbase : base ≤ w.heap.size) :
    Calls Try.prog 60 #[.slice (some ⟨g, 0, none⟩) out.length cap, .agg (frow f A' c' B' d'), .agg (vrow u A c)] w fun e w' => Ext w w' base g (out ++ valB f.may u) e := by
  have HO := Seg.hid ho
  have HI := Seg.hid hi
  have hgl := (out_lt ho).2
  have hgb := (out_lt ho).1
  clear ho hi
  obtain ⟨L, hL⟩ : ∃ L, out ++ valB f.may u = L := ⟨_, rfl⟩
  rw [hL]
  have HL := Seg.hid hL
  clear hL
  have start : Hid (∀ w1, Below (((w.alloc (.cells (frow f A' c' B' d') 86 (0, 0))).alloc (.cells (vrow u A c) 84 (0, 0))).heap.size) ((w.alloc (.cells (frow f A' c' B' d') 86 (0, 0))).alloc (.cells (vrow u A c) 84 (0, 0))) w1 → Ro w w1 base g out g cap) := fun w1 b1 => by
    have hb := chain (below2 w _ _) b1
    have := b1.size
    rw [hsz, hsz] at this
    exact ⟨out_below HO.out hb, below_grown hb _, .inl rfl, by omega, hgl, hbase⟩
  go_enter Try.func60, Try.ntmps60
  cases hk : kOk u.kind with
  | false =>
    have HK := Seg.hid hk
    have HV : Hid (L = out ++ [0]) := by show _ = _; rw [← HL.out, valB, hk]; rfl
    clear hk
    go_wp2_with fail
    refine (kind_no _ _ HK.out).mono ?_
    rintro e w1 ⟨rfl, b1⟩
    have RO := Seg.hid (start.out w1 b1)
    have hb1 : base ≤ w1.heap.size := by have := RO.out.sz; omega
    clear b1 start
    go_wp2_with (at_builtin; refine app rfl (.tmp 19) (.tmp 20) rfl base g cap out [0] ?zzs ?zzo ⟨w1.heap.size, 0, none⟩ 1 ?zzx ?zzn ?zzm ?zzb ?zzba ?_; (case zzs => rfl); (case zzo => exact World.ownsRow.alloc RO.out.out _); (case zzx => rfl); (case zzn => exact SqP.one_new w1 _ _); (case zzm => decide); (case zzb => simp; omega); (case zzba => simp; omega); intro g3 cap3 w3 o3 gr3 at3; have EX : Hid (Ext w w3 base g L (.returned (.slice (some ⟨g3, 0, none⟩) (out.length + 1) cap3))) := (by rw [HV.out]; have s3 := RO.out.sz; exact PuT.Ext.more (RO.out.gr.trans (below_grown (below1 w1 _) (some g))) (.inl rfl) o3 gr3 at3 (by simp) : Ext w w3 base g L (.returned (.slice (some ⟨g3, 0, none⟩) (out.length + 1) cap3))); clear o3 gr3 at3)
    go_ret
    exact EX.out
  | true =>
  obtain ⟨ty, K, x, KN⟩ := kw_any _ hk
  have hif := KN.ifc
  have hnum := KN.num
  have hni := KN.nil
  have hme := KN.meth
  have CW := Seg.hid KN.calls
  clear KN
  have HK := Seg.hid hk
  have HV : Hid (L = (out ++ if f.may = true then [1] else []) ++ vaB u) := by show _ = _; rw [← HL.out, valB, if_pos hk, List.append_assoc]
  have VL := Seg.hid (fun hl => vok_list hk hl hok)
  have VO := Seg.hid (fun hl => vok_one hk hl hok)
  clear hk HL hok
  go_wp2_with fail
  refine (kind_yes _ _ HK.out).mono ?_
  rintro e w1 ⟨rfl, b1⟩
  rw [hif]
  clear hif
  have RO := Seg.hid (start.out w1 b1)
  have c5 := (b1.block w.heap.size (by rw [hsz, hsz]; omega)).trans (at2z w _ _)
  have c3m : w1.cell? ⟨w.heap.size, 3, none⟩ = some (.bool f.may) := cell_of_row w1 _ 3 _ _ (0, 0) c5
  obtain ⟨c0, c1, c2, c3, c4⟩ := five2 ((b1.block (w.heap.size + 1) (by rw [hsz, hsz]; omega)).trans (at2y w _ _))
  have hb1 : base ≤ w1.heap.size := by have := RO.out.sz; omega
  clear b1 c5 start
  cases hm : f.may with
  | false =>
    have HW : Hid (L = (out ++ []) ++ vaB u) := by show _ = _; rw [HV.out, hm]; rfl
    rw [hm] at c3m
    clear hm HV
    cases hl : u.lst with
    | false =>
      rw [hl] at c3
      have HZ : Hid (L = (out ++ []) ++ (itB u.kind u.num u.text)) := by show _ = _; rw [HW.out, vaB, hl]; rfl
      have HH := Seg.hid (VO.out hl)
      clear HW hl VL VO
      go_upto_region 7 with fail
      obtain ⟨wa, hwa⟩ : ∃ wa, w1 = wa := ⟨_, rfl⟩
      obtain ⟨g1, hg1⟩ : ∃ g1, g = g1 := ⟨_, rfl⟩
      obtain ⟨l1, hl1⟩ : ∃ l1, out = l1 := ⟨_, rfl⟩
      obtain ⟨cap1, hc1⟩ : ∃ cap1, cap = cap1 := ⟨_, rfl⟩
      have RA : Hid (Ro w wa base g l1 g1 cap1) := by rw [← hwa, ← hg1, ← hl1, ← hc1]; exact RO.out
      have hll : l1.length ≤ out.length + 1 := by rw [← hl1]; omega
      rw [List.append_nil] at HZ
      have HZ2 : Hid (L = l1 ++ (itB u.kind u.num u.text)) := by rw [← hl1]; exact HZ.out
      clear HZ
      have HZ := HZ2
      clear HZ2
      clear RO
      subst hwa hg1 hc1 hl1
      have hza := RA.out.sz
      have hlt1 : w.heap.size + 1 < w1.heap.size := by omega
      rcases hnum with rfl | rfl | rfl
      all_goals
        go_region_held3 (fun w' => w'.cell? ⟨w.heap.size + 1, 0, none⟩ = some (.int .i64 u.kind) ∧ w'.cell? ⟨w.heap.size + 1, 1, none⟩ = some (.int .i64 u.num) ∧ w'.cell? ⟨w.heap.size + 1, 2, none⟩ = some (.string u.text) ∧ w'.cell? ⟨w.heap.size + 1, 3, none⟩ = some (.bool false) ∧ w'.cell? ⟨w.heap.size + 1, 4, none⟩ = some (.slice A u.items.length c)) (first | exact ⟨c0, c1, c2, c3, c4⟩ | exact ⟨d0, d1, d2, d3, d4⟩ | exact ⟨e0, e1, e2, e3, e4⟩ | go_keep) (first | (go_at_call 99; refine (only_any _ _ _ _ _ _).mono ?_; rintro e w2 ⟨rfl, b2'⟩; have b2 : Below w1.heap.size w1 w2 := ⟨b2'.os, b2'.tape, b2'.output, b2'.size, b2'.block⟩; have R2 := Seg.hid (RA.out.below b2); have s2 : w1.heap.size ≤ w2.heap.size := b2.size; have d0 := (b2.cell (p := ⟨w.heap.size + 1, 0, none⟩) hlt1).trans c0; have d1 := (b2.cell (p := ⟨w.heap.size + 1, 1, none⟩) hlt1).trans c1; have d2 := (b2.cell (p := ⟨w.heap.size + 1, 2, none⟩) hlt1).trans c2; have d3 := (b2.cell (p := ⟨w.heap.size + 1, 3, none⟩) hlt1).trans c3; have d4 := (b2.cell (p := ⟨w.heap.size + 1, 4, none⟩) hlt1).trans c4; clear b2 b2') | ((first | go_at_call 183 | go_at_call 178 | go_at_call 188); refine (CW.out _ _ _ _ base _ _ HH.out (by omega) R2.out.out (by have := R2.out.base; have := R2.out.sz; omega)).mono ?_; rintro e w3 hE; have e0 := kept1 d0 hE.gr R2.out.ne; have e1 := kept1 d1 hE.gr R2.out.ne; have e2 := kept1 d2 hE.gr R2.out.ne; have e3 := kept1 d3 hE.gr R2.out.ne; have e4 := kept1 d4 hE.gr R2.out.ne; have hR := R2.out.step hE; clear hE; rw [← HZ.out] at hR; obtain ⟨g3, cap3, rfl, r3⟩ := hR; have R3 := Seg.hid r3; clear r3))
        all_goals
          (try go_wp2)
          go_ret
          exact R3.out.ext rfl
    | true =>
      rw [hl] at c3
      have HZ : Hid (L = (out ++ []) ++ (put (u.items.length : Int) ++ itsB u.kind u.items)) := by show _ = _; rw [HW.out, vaB, hl]; rfl
      obtain ⟨h30, hall⟩ := VL.out hl
      have HALL := Seg.hid hall
      clear hall
      clear HW hl VL VO
      go_upto_region 8 with fail
      obtain ⟨wa, hwa⟩ : ∃ wa, w1 = wa := ⟨_, rfl⟩
      obtain ⟨g1, hg1⟩ : ∃ g1, g = g1 := ⟨_, rfl⟩
      obtain ⟨l1, hl1⟩ : ∃ l1, out = l1 := ⟨_, rfl⟩
      obtain ⟨cap1, hc1⟩ : ∃ cap1, cap = cap1 := ⟨_, rfl⟩
      have RA : Hid (Ro w wa base g l1 g1 cap1) := by rw [← hwa, ← hg1, ← hl1, ← hc1]; exact RO.out
      have hll : l1.length ≤ out.length + 1 := by rw [← hl1]; omega
      rw [List.append_nil] at HZ
      have HZ2 : Hid (L = l1 ++ (put (u.items.length : Int) ++ itsB u.kind u.items)) := by rw [← hl1]; exact HZ.out
      clear HZ
      have HZ := HZ2
      clear HZ2
      clear RO
      subst hwa hg1 hc1 hl1
      have hza := RA.out.sz
      have hlt1 : w.heap.size + 1 < w1.heap.size := by omega
      go_wp2_with fail
      refine (ints_new g cap base out [(u.items.length : Int)] w1 3 _ rfl (by simp) (by omega) (one_in (by omega)) RA.out.out (by have := RA.out.base; omega)).mono ?_
      rintro e w4 hE
      rw [nums1] at hE
      obtain ⟨l2, hl2⟩ : ∃ l2, out ++ put (u.items.length : Int) = l2 := ⟨_, rfl⟩
      have hl2l : l2.length ≤ 600020 := by have := put10 (n := (u.items.length : Int)) (by omega); rw [← hl2, List.length_append]; omega
      rw [hl2] at hE
      have HY : Hid (L = l2 ++ itsB u.kind u.items) := by show _ = _; rw [← hl2, HZ.out, List.append_assoc]
      clear HZ hl2
      have e4 := kept1 c4 hE.gr RA.out.ne
      have hR := RA.out.step hE
      clear hE
      obtain ⟨g2, cap2, rfl, r2⟩ := hR
      have R2 := Seg.hid r2
      clear r2 RA c0 c1 c2 c3 c4 hll hlt1
      rcases hnum with rfl | rfl | rfl
      all_goals
        go_wp2
        go_loopw [0, 47] (fun v i wr => ∃ k : Nat, i = .int .i64 k ∧ It w w4 wr base g u.kind u.items l2 k v) (fun _ i _ => u.items.length - (intOf i).toNat)
        case atStart => exact ⟨0, rfl, Nat.zero_le _, g2, cap2, l2, rfl, R2.out, by rw [itsB_zero, List.append_nil]⟩
        case round =>
          obtain ⟨k, rfl, IT⟩ := hrel
          have hk := IT.le
          obtain ⟨gx, cx, cur, rfl, rx, hcur⟩ := IT.ro
          have RX := Seg.hid rx
          have HC := Seg.hid hcur
          clear IT rx hcur
          by_cases hlt : k < u.items.length
          · have hb : Below base w wr := RX.out.bel hgb
            have hsx := RX.out.sz
            have hIr := LAt.below keepsItm HI.out hb hS
            obtain ⟨A9, c9, gi, oi, F9, e9, OP, hn9⟩ := opn hIr (fun x hx => by have := hS x hx; omega)
            simp only [Value.slice.injEq, true_and] at e9
            obtain ⟨rfl, rfl⟩ := e9
            obtain ⟨ea, hcc, hgi⟩ := OP.addr.resolve_left (by omega)
            subst ea
            obtain ⟨i0, i1⟩ := itm_at OP (fun x hx => by have := hS x hx; omega) (Below.refl _ _) hlt
            have HX : Hid (has u.kind (u.items.getD k default).num (u.items.getD k default).text = true) := by
              show _ = true
              have := List.all_eq_true.1 HALL.out u.items[k] (List.getElem_mem hlt)
              simpa [hlt, hasI] using this
            have NX := Seg.hid (itsB_next (k := u.kind) hlt)
            have CL : Hid (cur.length ≤ 604000) := by
              show _ ≤ _
              have := itsB_len HALL.out k hk
              rw [HC.out, List.length_append]
              omega
            have h0 : (0 : Int) ≤ (k : Int) := by omega
            have h1 : (k : Int) < (u.items.length : Int) := by omega
            clear hb hIr OP hn9
            generalize u.items.getD k default = it at *
            go_wp2_with fail
            refine (CW.out _ _ _ _ base _ _ HX.out (by have := CL.out; omega) (RX.out.below (below1 wr _)).out (by have := RX.out.base; rw [hsz]; omega)).mono ?_
            rintro e w5 hE
            obtain ⟨l5, hl5⟩ : ∃ l5, cur ++ itB u.kind it.num it.text = l5 := ⟨_, rfl⟩
            rw [hl5] at hE
            have H5 : Hid (l5 = l2 ++ itsB u.kind (u.items.take (k + 1))) := by show _ = _; rw [← hl5, HC.out, NX.out, List.append_assoc]
            have hR := (RX.out.below (below1 wr _)).step hE
            clear hE hl5
            obtain ⟨g5, cap5, rfl, r5⟩ := hR
            have R5 := Seg.hid r5
            clear r5
            go_wp2
            go_roundw
            case rel => exact ⟨k + 1, by go_num, by omega, g5, cap5, l5, rfl, R5.out, H5.out⟩
            case measure => simp [intOf]; omega
          · have hkl : k = u.items.length := by omega
            have HE : Hid (cur = L) := by show _ = _; rw [HC.out, HY.out, hkl, List.take_length]
            clear hkl
            go_wp2
            go_ret
            rw [← HE.out]
            exact RX.out.ext rfl
  | true =>
    have HW : Hid (L = (out ++ [1]) ++ vaB u) := by show _ = _; rw [HV.out, hm]; rfl
    rw [hm] at c3m
    clear hm HV
    cases hl : u.lst with
    | false =>
      rw [hl] at c3
      have HZ : Hid (L = (out ++ [1]) ++ (itB u.kind u.num u.text)) := by show _ = _; rw [HW.out, vaB, hl]; rfl
      have HH := Seg.hid (VO.out hl)
      clear HW hl VL VO
      go_upto_region 7 with (at_builtin; refine app rfl (.tmp 24) (.tmp 25) rfl base g cap out [1] ?zzs ?zzo ⟨w1.heap.size, 0, none⟩ 1 ?zzx ?zzn ?zzm ?zzb ?zzba ?_; (case zzs => rfl); (case zzo => exact World.ownsRow.alloc RO.out.out _); (case zzx => rfl); (case zzn => exact SqP.one_new w1 _ _); (case zzm => decide); (case zzb => simp; omega); (case zzba => simp; omega); intro g1 cap1 wa o3 gr3 at3; have E3 : Hid (Ext w1 wa base g (out ++ [1]) (.returned (.slice (some ⟨g1, 0, none⟩) (out ++ [1]).length cap1))) := PuT.Ext.more (below_grown (below1 w1 _) (some g)) (.inl rfl) o3 gr3 at3 rfl; clear o3 gr3 at3; replace c0 := kept1 c0 E3.out.gr RO.out.ne; replace c1 := kept1 c1 E3.out.gr RO.out.ne; replace c2 := kept1 c2 E3.out.gr RO.out.ne; replace c3 := kept1 c3 E3.out.gr RO.out.ne; replace c4 := kept1 c4 E3.out.gr RO.out.ne)
      have RA : Hid (Ro w wa base g (out ++ [1]) g1 cap1) := by
        obtain ⟨ga, ca, ea, h⟩ := RO.out.step E3.out
        simp only [Ending.returned.injEq, Value.slice.injEq, Option.some.injEq, Addr.mk.injEq, and_true, true_and] at ea
        obtain ⟨rfl, rfl⟩ := ea
        exact h
      clear RO E3
      obtain ⟨l1, hl1⟩ : ∃ l1, out ++ [1] = l1 := ⟨_, rfl⟩
      have hll : l1.length = out.length + 1 := by rw [← hl1]; simp
      rw [hl1] at HZ RA
      try rw [← hll]
      have hll2 : l1.length ≤ 600001 := by omega
      clear hl1 hll
      have hll := hll2
      have hza := RA.out.sz
      have hlt1 : w.heap.size + 1 < wa.heap.size := by omega
      rcases hnum with rfl | rfl | rfl
      all_goals
        go_region_held3 (fun w' => w'.cell? ⟨w.heap.size + 1, 0, none⟩ = some (.int .i64 u.kind) ∧ w'.cell? ⟨w.heap.size + 1, 1, none⟩ = some (.int .i64 u.num) ∧ w'.cell? ⟨w.heap.size + 1, 2, none⟩ = some (.string u.text) ∧ w'.cell? ⟨w.heap.size + 1, 3, none⟩ = some (.bool false) ∧ w'.cell? ⟨w.heap.size + 1, 4, none⟩ = some (.slice A u.items.length c)) (first | exact ⟨c0, c1, c2, c3, c4⟩ | exact ⟨d0, d1, d2, d3, d4⟩ | exact ⟨e0, e1, e2, e3, e4⟩ | go_keep) (first | (go_at_call 99; refine (only_any _ _ _ _ _ _).mono ?_; rintro e w2 ⟨rfl, b2'⟩; have b2 : Below wa.heap.size wa w2 := ⟨b2'.os, b2'.tape, b2'.output, b2'.size, b2'.block⟩; have R2 := Seg.hid (RA.out.below b2); have s2 : wa.heap.size ≤ w2.heap.size := b2.size; have d0 := (b2.cell (p := ⟨w.heap.size + 1, 0, none⟩) hlt1).trans c0; have d1 := (b2.cell (p := ⟨w.heap.size + 1, 1, none⟩) hlt1).trans c1; have d2 := (b2.cell (p := ⟨w.heap.size + 1, 2, none⟩) hlt1).trans c2; have d3 := (b2.cell (p := ⟨w.heap.size + 1, 3, none⟩) hlt1).trans c3; have d4 := (b2.cell (p := ⟨w.heap.size + 1, 4, none⟩) hlt1).trans c4; clear b2 b2') | ((first | go_at_call 183 | go_at_call 178 | go_at_call 188); refine (CW.out _ _ _ _ base _ _ HH.out (by omega) R2.out.out (by have := R2.out.base; have := R2.out.sz; omega)).mono ?_; rintro e w3 hE; have e0 := kept1 d0 hE.gr R2.out.ne; have e1 := kept1 d1 hE.gr R2.out.ne; have e2 := kept1 d2 hE.gr R2.out.ne; have e3 := kept1 d3 hE.gr R2.out.ne; have e4 := kept1 d4 hE.gr R2.out.ne; have hR := R2.out.step hE; clear hE; rw [← HZ.out] at hR; obtain ⟨g3, cap3, rfl, r3⟩ := hR; have R3 := Seg.hid r3; clear r3))
        all_goals
          (try go_wp2)
          go_ret
          exact R3.out.ext rfl
    | true =>
      rw [hl] at c3
      have HZ : Hid (L = (out ++ [1]) ++ (put (u.items.length : Int) ++ itsB u.kind u.items)) := by show _ = _; rw [HW.out, vaB, hl]; rfl
      obtain ⟨h30, hall⟩ := VL.out hl
      have HALL := Seg.hid hall
      clear hall
      clear HW hl VL VO
      go_upto_region 8 with (at_builtin; refine app rfl (.tmp 24) (.tmp 25) rfl base g cap out [1] ?zzs ?zzo ⟨w1.heap.size, 0, none⟩ 1 ?zzx ?zzn ?zzm ?zzb ?zzba ?_; (case zzs => rfl); (case zzo => exact World.ownsRow.alloc RO.out.out _); (case zzx => rfl); (case zzn => exact SqP.one_new w1 _ _); (case zzm => decide); (case zzb => simp; omega); (case zzba => simp; omega); intro g1 cap1 wa o3 gr3 at3; have E3 : Hid (Ext w1 wa base g (out ++ [1]) (.returned (.slice (some ⟨g1, 0, none⟩) (out ++ [1]).length cap1))) := PuT.Ext.more (below_grown (below1 w1 _) (some g)) (.inl rfl) o3 gr3 at3 rfl; clear o3 gr3 at3; replace c0 := kept1 c0 E3.out.gr RO.out.ne; replace c1 := kept1 c1 E3.out.gr RO.out.ne; replace c2 := kept1 c2 E3.out.gr RO.out.ne; replace c3 := kept1 c3 E3.out.gr RO.out.ne; replace c4 := kept1 c4 E3.out.gr RO.out.ne)
      have RA : Hid (Ro w wa base g (out ++ [1]) g1 cap1) := by
        obtain ⟨ga, ca, ea, h⟩ := RO.out.step E3.out
        simp only [Ending.returned.injEq, Value.slice.injEq, Option.some.injEq, Addr.mk.injEq, and_true, true_and] at ea
        obtain ⟨rfl, rfl⟩ := ea
        exact h
      clear RO E3
      obtain ⟨l1, hl1⟩ : ∃ l1, out ++ [1] = l1 := ⟨_, rfl⟩
      have hll : l1.length = out.length + 1 := by rw [← hl1]; simp
      rw [hl1] at HZ RA
      try rw [← hll]
      have hll2 : l1.length ≤ 600001 := by omega
      clear hl1 hll
      have hll := hll2
      have hza := RA.out.sz
      have hlt1 : w.heap.size + 1 < wa.heap.size := by omega
      go_wp2_with fail
      refine (ints_new g1 cap1 base l1 [(u.items.length : Int)] wa 3 _ rfl (by simp) (by omega) (one_in (by omega)) RA.out.out (by have := RA.out.base; omega)).mono ?_
      rintro e w4 hE
      rw [nums1] at hE
      obtain ⟨l2, hl2⟩ : ∃ l2, l1 ++ put (u.items.length : Int) = l2 := ⟨_, rfl⟩
      have hl2l : l2.length ≤ 600020 := by have := put10 (n := (u.items.length : Int)) (by omega); rw [← hl2, List.length_append]; omega
      rw [hl2] at hE
      have HY : Hid (L = l2 ++ itsB u.kind u.items) := by show _ = _; rw [← hl2, HZ.out, List.append_assoc]
      clear HZ hl2
      have e4 := kept1 c4 hE.gr RA.out.ne
      have hR := RA.out.step hE
      clear hE
      obtain ⟨g2, cap2, rfl, r2⟩ := hR
      have R2 := Seg.hid r2
      clear r2 RA c0 c1 c2 c3 c4 hll hlt1
      rcases hnum with rfl | rfl | rfl
      all_goals
        go_wp2
        go_loopw [0, 47] (fun v i wr => ∃ k : Nat, i = .int .i64 k ∧ It w w4 wr base g u.kind u.items l2 k v) (fun _ i _ => u.items.length - (intOf i).toNat)
        case atStart => exact ⟨0, rfl, Nat.zero_le _, g2, cap2, l2, rfl, R2.out, by rw [itsB_zero, List.append_nil]⟩
        case round =>
          obtain ⟨k, rfl, IT⟩ := hrel
          have hk := IT.le
          obtain ⟨gx, cx, cur, rfl, rx, hcur⟩ := IT.ro
          have RX := Seg.hid rx
          have HC := Seg.hid hcur
          clear IT rx hcur
          by_cases hlt : k < u.items.length
          · have hb : Below base w wr := RX.out.bel hgb
            have hsx := RX.out.sz
            have hIr := LAt.below keepsItm HI.out hb hS
            obtain ⟨A9, c9, gi, oi, F9, e9, OP, hn9⟩ := opn hIr (fun x hx => by have := hS x hx; omega)
            simp only [Value.slice.injEq, true_and] at e9
            obtain ⟨rfl, rfl⟩ := e9
            obtain ⟨ea, hcc, hgi⟩ := OP.addr.resolve_left (by omega)
            subst ea
            obtain ⟨i0, i1⟩ := itm_at OP (fun x hx => by have := hS x hx; omega) (Below.refl _ _) hlt
            have HX : Hid (has u.kind (u.items.getD k default).num (u.items.getD k default).text = true) := by
              show _ = true
              have := List.all_eq_true.1 HALL.out u.items[k] (List.getElem_mem hlt)
              simpa [hlt, hasI] using this
            have NX := Seg.hid (itsB_next (k := u.kind) hlt)
            have CL : Hid (cur.length ≤ 604000) := by
              show _ ≤ _
              have := itsB_len HALL.out k hk
              rw [HC.out, List.length_append]
              omega
            have h0 : (0 : Int) ≤ (k : Int) := by omega
            have h1 : (k : Int) < (u.items.length : Int) := by omega
            clear hb hIr OP hn9
            generalize u.items.getD k default = it at *
            go_wp2_with fail
            refine (CW.out _ _ _ _ base _ _ HX.out (by have := CL.out; omega) (RX.out.below (below1 wr _)).out (by have := RX.out.base; rw [hsz]; omega)).mono ?_
            rintro e w5 hE
            obtain ⟨l5, hl5⟩ : ∃ l5, cur ++ itB u.kind it.num it.text = l5 := ⟨_, rfl⟩
            rw [hl5] at hE
            have H5 : Hid (l5 = l2 ++ itsB u.kind (u.items.take (k + 1))) := by show _ = _; rw [← hl5, HC.out, NX.out, List.append_assoc]
            have hR := (RX.out.below (below1 wr _)).step hE
            clear hE hl5
            obtain ⟨g5, cap5, rfl, r5⟩ := hR
            have R5 := Seg.hid r5
            clear r5
            go_wp2
            go_roundw
            case rel => exact ⟨k + 1, by go_num, by omega, g5, cap5, l5, rfl, R5.out, H5.out⟩
            case measure => simp [intOf]; omega
          · have hkl : k = u.items.length := by omega
            have HE : Hid (cur = L) := by show _ = _; rw [HC.out, HY.out, hkl, List.take_length]
            clear hkl
            go_wp2
            go_ret
            rw [← HE.out]
            exact RX.out.ext rfl
end Go.Proofs.Ytdhicmbfknagjaa.WwI
namespace Go.Proofs.Ytdhicmbfknagjaa.WwK
set_option maxRecDepth 8000
open Go.RowKit
open Ls Lp VkP VkR ScP ScI ScS RoP RoI WwP
open SqP (Out app)
open Nums (put)
open PuI (Ext below_grown out_below out_lt out_cell)
open Recs (hsz below1 below2 below3 chain chainD)
set_option linter.unusedVariables false
/-- A row's fields up to the k-th are written. -/
structure Wr (w2 wr : World) (base : Nat) (fs : List Fld) (us : List Vlu) (id : Int) (k : Nat) (v : Value) : Prop where
  le : k ≤ fs.length
  ro : ∃ gx cap cur, v = .slice (some ⟨gx, 0, none⟩) cur.length cap ∧ Out wr base gx cap cur ∧ cur = put id ++ rowB fs us k
  bel : Below base w2 wr
theorem none_own (w wx : World) (hb : Below w.heap.size w wx) (c : Nat) (A : Option Addr) : Ow.YsOwn wx (seg w.heap.size wx.heap.size) (.slice A 0 c) [] := Ow.LOwn.nil _ _ _ _
theorem ext_next {w2 wx w' : World} {base gx : Nat} {l : List Int} {e : Ending} (hb : Below base w2 wx) (hs : base ≤ wx.heap.size) (hg : base ≤ gx) (E : Ext wx w' base gx l e) : Below base w2 w' :=
  hb.grown E.gr hs (fun k hk => by cases hk; exact hg)
set_option maxHeartbeats 6400000 in
theorem impl_any (id : Int) (x y : Value) (s : Sch) (us : List Vlu) (w : World) (S : Nat → Prop) (hx : SchAt w S x s) (hy : LAt 5 EVlu w S y us) (hS : ∀ g, S g → g < w.heap.size) (hfs : szSch s ≤ 1048576) (hfu : szL szVlu us ≤ 1048576) :
    Calls Try.prog 24 #[.int .i64 id, x, y] w fun e w' => ∃ v, e = .returned v ∧ Ow.YsOwn w' (seg w.heap.size w'.heap.size) v (wrow id s us) ∧ Below w.heap.size w w' := by
  have HX := Seg.hid hx
  have HY := Seg.hid hy
  obtain ⟨A0, c0, rfl, hl⟩ := formS hx
  obtain ⟨A, c, g, o, F, e, OP, hn⟩ := opn hl hS
  cases e
  obtain ⟨A2, c2, g2, o2, F2, rfl, OP2, hn2⟩ := opn hy hS
  have HO := Seg.hid OP
  have HO2 := Seg.hid OP2
  have C1 : Hid (∀ wx, Below w.heap.size w wx → Calls Try.prog 58 #[.agg (srow s A0 c0), .slice A2 us.length c2] wx fun e w' => e = .returned (.bool (rowOk s us)) ∧ Below wx.heap.size wx w') := fun wx b => RoI.impl_any _ _ s us wx S (HX.out.below b hS) (LAt.below keepsVlu HY.out b hS) (fun g hg => Nat.lt_of_lt_of_le (hS g hg) b.size) hfs hfu
  clear hx hy hl OP OP2 hfs hfu
  obtain ⟨R, hR⟩ : ∃ R, wrow id s us = R := ⟨_, rfl⟩
  rw [hR]
  have HR := Seg.hid hR
  clear hR
  go_enter Try.func24, Try.ntmps24
  cases hin : inR 0 id 1000000000 with
  | false =>
    have RF : Hid (R = []) := by show _ = _; rw [← HR.out, wrow, hin]; rfl
    have HB := Seg.hid hin
    clear hin
    go_wp2_with (go_at_call 41; refine (InB.within_b _ _ _ _ HB.out _).mono ?_; rintro e w5 ⟨rfl, rfl⟩)
    go_ret
    exact ⟨_, rfl, by rw [RF.out]; exact Ow.LOwn.nil _ _ _ _, below2 _ _ _⟩
  | true =>
  have HB := Seg.hid hin
  go_wp2_with (first | (go_at_call 41; refine (InB.within_b _ _ _ _ HB.out _).mono ?_; rintro e w5 ⟨rfl, rfl⟩) | fail)
  refine (C1.out _ (below1 w _)).mono ?_
  rintro e w1 ⟨rfl, b1⟩
  have B1 := Seg.hid (chain (below1 w _) b1)
  have P1 : Hid (w1.heap[w.heap.size]? = some (.cells (srow s A0 c0) 43 (0, 0))) := (b1.block w.heap.size (by rw [hsz]; omega)).trans (heap_alloc_new w _)
  have s1 : w.heap.size < w1.heap.size := (Array.getElem?_eq_some_iff.1 P1.out).1
  clear b1 C1
  cases h1 : rowOk s us with
  | false =>
    have RF : Hid (R = []) := by show _ = _; rw [← HR.out, wrow, hin, h1]; rfl
    clear hin h1
    go_wp2
    go_ret
    exact ⟨_, rfl, by rw [RF.out]; exact Ow.LOwn.nil _ _ _ _, chain B1.out (below1 _ _)⟩
  | true =>
  have hid := inR_true hin
  have RF : Hid (R = put id ++ rowB s.fields us s.fields.length) := by show _ = _; rw [← HR.out, wrow, hin, h1]; rfl
  have RL : Hid (R.length ≤ 100000) := by show _ ≤ _; rw [← HR.out]; exact wrow_len _ _ _
  simp only [rowOk, Bool.and_eq_true, decide_eq_true_eq] at h1
  have HROW : Hid (rowL s.fields us s.fields.length = true) := h1.2.2
  have HL : Hid (us.length = s.fields.length) := h1.2.1
  have h20 : s.fields.length ≤ 20 := (MaP.sok_dst h1.1).2.1
  have p1 : w1.cell? ⟨w.heap.size, 1, none⟩ = some (.slice A0 s.fields.length c0) := cell_of_row w1 _ 1 _ _ (0, 0) P1.out
  have hpl := put10 (n := id) (by omega)
  clear h1 hin HR HB
  go_wp2_with fail
  refine (Put.impl_any id w1 (by omega) (by omega)).mono ?_
  rintro e w2 ⟨gp, cp, rfl, op, b2⟩
  have OP2 := Seg.hid op
  have B2 := Seg.hid b2
  have s2 : w1.heap.size ≤ w2.heap.size := b2.size
  have p2 : w2.cell? ⟨w.heap.size, 1, none⟩ = some (.slice A0 s.fields.length c0) := (b2.cell (p := ⟨w.heap.size, 1, none⟩) s1).trans p1
  clear op b2 p1 P1
  go_wp2
  go_loopw [7, 25] (fun v i wr => ∃ k : Nat, i = .int .i64 k ∧ Wr w2 wr w1.heap.size s.fields us id k v) (fun _ i _ => s.fields.length - (intOf i).toNat)
  case atStart => exact ⟨0, rfl, Nat.zero_le _, ⟨gp, cp, put id, rfl, OP2.out, by rw [rowB_zero, List.append_nil]⟩, Below.refl _ _⟩
  case round =>
    clear OP2
    obtain ⟨k, rfl, WR⟩ := hrel
    have hk := WR.le
    obtain ⟨gx, cx, cur, rfl, ox, hcur⟩ := WR.ro
    have OX := Seg.hid ox
    have HC := Seg.hid hcur
    have BX : Hid (Below w1.heap.size w1 wr) := B2.out.trans WR.bel
    have BR := Seg.hid WR.bel
    clear WR ox hcur
    by_cases hlt : k < s.fields.length
    · obtain ⟨ea, hc, hgw⟩ := HO.out.addr.resolve_left (by omega)
      subst ea
      have hltu : k < us.length := by have := HL.out; omega
      obtain ⟨ea, hc2, hgw2⟩ := HO2.out.addr.resolve_left (by omega)
      subst ea
      have BW : Hid (Below w.heap.size w wr) := B1.out.trans (BX.out.mono (by omega))
      obtain ⟨A', c', B', d', hfl, d0, d1, d2, d3, d4, d5, d6, d7, d8, d9, d10⟩ := fld_at HO.out hS BW.out hlt
      obtain ⟨A4, c4, hvl, q11, q12, q13, q14, q15⟩ := vlu_at HO2.out hS BW.out hltu
      have h0 : (0 : Int) ≤ (k : Int) := by omega
      have h1 : (k : Int) < (s.fields.length : Int) := by omega
      have h2 : (k : Int) < (us.length : Int) := by omega
      have OK1 : Hid (vok (us.getD k default) = true) := (one_vok (rowL_at hlt HROW.out)).1
      have NX : Hid (rowB s.fields us (k + 1) = rowB s.fields us k ++ valB (s.fields.getD k default).may (us.getD k default)) := rowB_next _ _ _
      have CL : Hid (cur.length ≤ 100000) := by
        show _ ≤ _
        have := rowB_len HROW.out k hk
        rw [HC.out, List.length_append]
        omega
      obtain ⟨A9, c9, hv9, hit⟩ := formV hvl
      simp only [Value.agg.injEq, Array.mk.injEq, List.cons.injEq, and_true, true_and, Value.slice.injEq] at hv9
      obtain ⟨rfl, rfl⟩ := hv9
      have HIT := Seg.hid hit
      clear hfl hvl hit
      generalize s.fields.getD k default = f at *
      generalize us.getD k default = u at *
      have CV : Hid (∀ wx, Below wr.heap.size wr wx → Calls Try.prog 60 #[.slice (some ⟨gx, 0, none⟩) cur.length cx, .agg (frow f A' c' B' d'), .agg (vrow u A4 c4)] wx fun e w' => Ext wx w' w1.heap.size gx (cur ++ valB f.may u) e) := fun wx bx =>
        WwI.value_w f u A4 A' B' c4 c' d' gx cx w1.heap.size cur wx S (LAt.below keepsItm HIT.out bx (fun g hg => Nat.lt_of_lt_of_le (hS g hg) BW.out.size)) (fun z hz => Nat.lt_trans (hS z hz) s1) OK1.out (by have := CL.out; omega) (out_below OX.out bx) (Nat.le_trans BX.out.size bx.size)
      have y5 : g2 < wr.heap.size := by have := BW.out.size; omega
      obtain ⟨w5, hw5⟩ : ∃ w5, wr.alloc (.cells #[.string f.name, .int .i64 f.kind, .bool f.lst, .bool f.may, .slice A' f.was.length c', .bool f.fixd, .int .i64 f.vk, .int .i64 f.vn, .string f.vt, .bool f.vl, .slice B' f.vi.length d'] 86 (0, 0)) = w5 := ⟨_, rfl⟩
      have T5 : Hid (w5.heap[wr.heap.size]? = some (.cells (frow f A' c' B' d') 86 (0, 0))) := by show _ = _; rw [← hw5]; exact heap_alloc_new _ _
      have N5 : Hid (Below wr.heap.size wr w5) := by show Below _ _ _; rw [← hw5]; exact below1 _ _
      have s5 : wr.heap.size < w5.heap.size := (Array.getElem?_eq_some_iff.1 T5.out).1
      go_upto_region 7 with fail
      try rw [hw5]
      clear hw5 d0 d1 d2 d3 d4 d5 d6 d7 d8 d9 d10
      obtain ⟨q0, q1, q2, q3, q4, q5, q6, q7, q8, q9, q10⟩ := cells11 T5.out
      have q11 := (N5.out.cell (p := ⟨g2, o2 + k * 5, none⟩) y5).trans q11
      have q12 := (N5.out.cell (p := ⟨g2, o2 + k * 5 + 1, none⟩) y5).trans q12
      have q13 := (N5.out.cell (p := ⟨g2, o2 + k * 5 + 2, none⟩) y5).trans q13
      have q14 := (N5.out.cell (p := ⟨g2, o2 + k * 5 + 3, none⟩) y5).trans q14
      have q15 := (N5.out.cell (p := ⟨g2, o2 + k * 5 + 4, none⟩) y5).trans q15
      have y5 : g2 < w5.heap.size := by omega
      obtain ⟨l5, hl5⟩ : ∃ l5, cur ++ valB f.may u = l5 := ⟨_, rfl⟩
      rw [hl5] at CV
      have H5 : Hid (l5 = put id ++ rowB s.fields us (k + 1)) := by show _ = _; rw [← hl5, HC.out, NX.out, List.append_assoc]
      clear hl5 HC NX
      have hgx := (out_lt OX.out).1
      have hn1 : wr.heap.size ≠ gx := by have := (out_lt OX.out).2; omega
      have hn2 : g2 ≠ gx := by omega
      go_wp2_with fail
      go_region_held3 (fun w' => w'.cell? ⟨wr.heap.size, 0, none⟩ = some (.string f.name) ∧ w'.cell? ⟨wr.heap.size, 1, none⟩ = some (.int .i64 f.kind) ∧ w'.cell? ⟨wr.heap.size, 2, none⟩ = some (.bool f.lst) ∧ w'.cell? ⟨wr.heap.size, 3, none⟩ = some (.bool f.may) ∧ w'.cell? ⟨wr.heap.size, 4, none⟩ = some (.slice A' f.was.length c') ∧ w'.cell? ⟨wr.heap.size, 5, none⟩ = some (.bool f.fixd) ∧ w'.cell? ⟨wr.heap.size, 6, none⟩ = some (.int .i64 f.vk) ∧ w'.cell? ⟨wr.heap.size, 7, none⟩ = some (.int .i64 f.vn) ∧ w'.cell? ⟨wr.heap.size, 8, none⟩ = some (.string f.vt) ∧ w'.cell? ⟨wr.heap.size, 9, none⟩ = some (.bool f.vl) ∧ w'.cell? ⟨wr.heap.size, 10, none⟩ = some (.slice B' f.vi.length d') ∧ w'.cell? ⟨g2, o2 + k * 5, none⟩ = some (.int .i64 u.kind) ∧ w'.cell? ⟨g2, o2 + k * 5 + 1, none⟩ = some (.int .i64 u.num) ∧ w'.cell? ⟨g2, o2 + k * 5 + 2, none⟩ = some (.string u.text) ∧ w'.cell? ⟨g2, o2 + k * 5 + 3, none⟩ = some (.bool u.lst) ∧ w'.cell? ⟨g2, o2 + k * 5 + 4, none⟩ = some (.slice A4 u.items.length c4)) (first | exact ⟨q0, q1, q2, q3, q4, q5, q6, q7, q8, q9, q10, q11, q12, q13, q14, q15⟩ | exact ⟨r0, r1, r2, r3, r4, r5, r6, r7, r8, r9, r10, r11, r12, r13, r14, r15⟩ | go_keep) (first | (go_at_call 60; refine (CV.out _ N5.out.drew).mono ?_; rintro e w8 hE; have gr5 : w5.grownBy w8 (some gx) := ⟨hE.gr.os, hE.gr.tape, hE.gr.output, hE.gr.size, hE.gr.block⟩; have r0 := WwI.kept1 q0 gr5 hn1; have r1 := WwI.kept1 q1 gr5 hn1; have r2 := WwI.kept1 q2 gr5 hn1; have r3 := WwI.kept1 q3 gr5 hn1; have r4 := WwI.kept1 q4 gr5 hn1; have r5 := WwI.kept1 q5 gr5 hn1; have r6 := WwI.kept1 q6 gr5 hn1; have r7 := WwI.kept1 q7 gr5 hn1; have r8 := WwI.kept1 q8 gr5 hn1; have r9 := WwI.kept1 q9 gr5 hn1; have r10 := WwI.kept1 q10 gr5 hn1; have r11 := WwI.kept1 q11 gr5 hn2; have r12 := WwI.kept1 q12 gr5 hn2; have r13 := WwI.kept1 q13 gr5 hn2; have r14 := WwI.kept1 q14 gr5 hn2; have r15 := WwI.kept1 q15 gr5 hn2; clear gr5; have B8 : Hid (Below w1.heap.size w2 w8) := ext_next (w2 := w2) (BR.out.trans (N5.out.drew.mono (by have := BX.out.size; omega))) (by show _ ≤ w5.heap.size; have := BX.out.size; omega) hgx hE; obtain ⟨⟨g8, c8, rfl, o8, a8⟩, gr8⟩ := hE; have O8 := Seg.hid o8; clear o8 a8 gr8))
      all_goals
        clear r0 r1 r2 r3 r4 r5 r6 r7 r8 r9 r10 r11 r12 r13 r14 r15
        go_wp2
        go_roundw
        case rel => exact ⟨k + 1, by go_num, by omega, ⟨g8, c8, l5, rfl, O8.out, H5.out⟩, B8.out⟩
        case measure => simp [intOf]; omega
    · have hkl : k = s.fields.length := by omega
      have HE : Hid (cur = R) := by show _ = _; rw [HC.out, RF.out, hkl]
      have hgx := out_lt OX.out
      clear hkl
      go_wp2
      go_ret
      rw [← HE.out]
      exact ⟨_, rfl, Ow.bytes_own OX.out rfl (by have := RL.out; rw [← HE.out] at this; omega) ⟨by omega, hgx.2⟩, B1.out.trans (BX.out.mono (by omega))⟩
end Go.Proofs.Ytdhicmbfknagjaa.WwK
