/- Transactions that are open, and those that were aborted: one batch after another, on plain data; What the law's helpers over Heads answer: how much of the measure is left; a copy in memory of its own; whether two are alike; What the law's helpers over one Record answer. -/
import Derived.RegionTactic
import Derived.Maps.AppendAt
import Derived.Laws.Rows
import Derived.Deep.RegionWith
import Derived.Outline
import Derived.Test.YtdnfnjlnfmafkaaRows
import Derived.Test.YtdnfnjlnfmafkaaJVS02
import Derived.Test.YtdnfnjlnfmafkaaJVS01
namespace Go.Proofs.Ytdnfnjlnfmafkaa.SdQ
set_option maxRecDepth 8000
open Go.RowKit
open Ls
open Recs (Bat)
set_option linter.unusedVariables false
def mk (b : Bat) : Bool := decide (4 ≤ b.flags)
def op (b : Bat) : Bool := decide (b.flags / 2 % 2 = 1)
def key0 (b : Bat) : ByteArray := (b.recs.getD 0 default).key
def abort (b : Bat) : Bool := decide ((key0 b).toList = [97, 98, 111, 114, 116])
/-- Where a producer's transaction began, if one is open. -/
def fnd (p : Int) : List Gon → Option Int
  | [] => none
  | g :: r => if g.producer = p then some g.first else fnd p r
def del (p : Int) (l : List Gon) : List Gon := l.filter fun g => !decide (g.producer = p)
/-- One batch: what is open, and what was aborted. -/
def stp (s : List Gon × List Gon) (b : Bat) : List Gon × List Gon :=
  if mk b = true then
    match fnd b.producer s.1 with
    | none => s
    | some f => (del b.producer s.1, if abort b = true then s.2 ++ [⟨b.producer, f, b.base⟩] else s.2)
  else if (op b && (fnd b.producer s.1).isNone) = true then (s.1 ++ [⟨b.producer, b.base, 0⟩], s.2)
  else s
def runB (s : List Gon × List Gon) (l : List Bat) : List Gon × List Gon := l.foldl stp s
def least (n : Int) (l : List Gon) : Int := l.foldl (fun a g => min a g.first) n
theorem fnd_app (p : Int) : ∀ (l : List Gon) (g : Gon), fnd p (l ++ [g]) = (fnd p l).or (if g.producer = p then some g.first else none)
  | [], g => by simp [fnd]
  | x :: r, g => by
    simp only [List.cons_append, fnd]
    split
    · simp
    · exact fnd_app p r g
theorem fnd_del (p q : Int) : ∀ l : List Gon, fnd q (del p l) = if q = p then none else fnd q l
  | [] => by simp [del, fnd]
  | x :: r => by
    have ih := fnd_del p q r
    unfold del at ih ⊢
    by_cases h : x.producer = p
    · have e : ((x :: r).filter fun g => !decide (g.producer = p)) = r.filter fun g => !decide (g.producer = p) := by simp [h]
      rw [e, ih]
      by_cases hq : q = p
      · simp [hq]
      · simp only [hq, if_false, fnd]
        rw [if_neg (by rw [h]; exact fun e => hq e.symm)]
    · have e : ((x :: r).filter fun g => !decide (g.producer = p)) = x :: (r.filter fun g => !decide (g.producer = p)) := by simp [h]
      rw [e]
      simp only [fnd, ih]
      by_cases hq : q = p
      · simp only [hq, if_true]
        rw [if_neg h]
      · simp only [hq, if_false]
theorem del_none {p : Int} {l : List Gon} (h : fnd p l = none) : del p l = l := by
  unfold del
  rw [List.filter_eq_self]
  intro g hg
  induction l with
  | nil => cases hg
  | cons x r ih =>
    simp only [fnd] at h
    split at h
    · cases h
    · rename_i hx
      rcases List.mem_cons.1 hg with e | e
      · subst e; simp [hx]
      · exact ih h e
end Go.Proofs.Ytdnfnjlnfmafkaa.SdQ
namespace Go.Proofs.Ytdnfnjlnfmafkaa.Sz
set_option maxRecDepth 8000
open Go.RowKit
open Recs
set_option linter.unusedVariables false

theorem row2 {F : Nat → Value} {K V : Nat → ByteArray} {i : Nat} (h : F (i * 2) = .string (K i) ∧ F (i * 2 + 1) = .string (V i)) (q : Nat) (hq : q < 2) : F (i * 2 + q) = if q = 0 then .string (K i) else .string (V i) := by
  match q, hq with
  | 0, _ => exact h.1
  | 1, _ => exact h.2
theorem info48 : (Try.prog.info? 94).map (·.size) = some 2 := by kernel_rfl
theorem toHead_any (k v : ByteArray) (w : World) : Calls Try.prog 83 #[.agg #[.string k, .string v]] w fun e w' => e = .returned (.agg #[.string k, .string v]) ∧ Below w.heap.size w w' := by
  go_enter Try.func83, Try.ntmps83
  go_wp2
  exact bodyPost_ret (v := .agg #[.string k, .string v]) (results_cell_row rfl _ _ (w.heap.size + 1) _ _ _ _ rfl (at3 _ _ _ _) Try.underlying94 rfl info48) rfl ⟨rfl, below3 _ _ _ _⟩

theorem szHead_any (k v : ByteArray) (l : Int) (w : World) (h1 : k.size ≤ maxLen) (h2 : v.size ≤ maxLen) (h3 : -1 ≤ l) (h4 : l ≤ 1048576) : Calls Try.prog 82 #[.agg #[.string k, .string v], .int .i64 l] w fun e w' => ∃ r, e = .returned (.int .i64 r) ∧ -1 ≤ r ∧ r ≤ l ∧ Below w.heap.size w w' := by
  unfold maxLen at h1 h2
  go_enter Try.func82, Try.ntmps82
  go_wp2
  all_goals
    go_ret
    exact ⟨_, rfl, by omega, by omega, below1 _ _⟩
theorem eqHead_any (k v : ByteArray) (w : World) : Calls Try.prog 72 #[.agg #[.string k, .string v], .agg #[.string k, .string v]] w fun e w' => e = .returned (.bool true) ∧ Below w.heap.size w w' := by
  go_enter Try.func72, Try.ntmps72
  go_wp2
  go_ret
  exact ⟨rfl, below2 _ _ _⟩

theorem szHeadS_core (g o n c : Nat) (K V : Nat → ByteArray) (l : Int) (w : World) (h3 : -1 ≤ l) (h4 : l ≤ 1048576) (hn : n ≤ 9223372036854775807) (hc : n ≤ c) (hg : g < w.heap.size)
    (hk : ∀ i, i < n → (K i).size ≤ maxLen ∧ (V i).size ≤ maxLen)
    (ha : ∀ i, i < n → w.cell? ⟨g, o + i * 2, none⟩ = some (.string (K i)) ∧ w.cell? ⟨g, o + i * 2 + 1, none⟩ = some (.string (V i))) :
    Calls Try.prog 80 #[.slice (some ⟨g, o, none⟩) n c, .int .i64 l] w fun e w' => ∃ r, e = .returned (.int .i64 r) ∧ -1 ≤ r ∧ r ≤ l ∧ (0 ≤ r → (n : Int) ≤ l) ∧ Below w.heap.size w w' := by
  have HA := Seg.hid ha
  have HK := Seg.hid hk
  clear ha hk
  go_enter Try.func80, Try.ntmps80
  by_cases hlt : l - (n : Int) < 0
  · go_wp2
    go_ret
    exact ⟨_, rfl, by omega, by omega, fun h => absurd h (by omega), Below.refl _ _⟩
  go_wp2
  go_loopw [1, 5] (fun x i wr => ∃ (k : Nat) (r : Int), k ≤ n ∧ x = .int .i64 r ∧ i = .int .i64 k ∧ 0 ≤ r ∧ r ≤ l ∧ Below w.heap.size w wr) (fun _ i _ => n - (intOf i).toNat)
  case atStart => exact ⟨0, l - n, Nat.zero_le _, rfl, rfl, by omega, by omega, Below.refl _ _⟩
  case round =>
    obtain ⟨k, r, hk, rfl, rfl, hr0, hr1, hb⟩ := hrel
    have HB := Seg.hid hb
    clear hb
    by_cases hlt2 : k < n
    · have c1 : wr.cell? ⟨g, o + k * 2, none⟩ = some (.string (K k)) := by rw [HB.out.cell (p := ⟨g, o + k * 2, none⟩) hg]; exact (HA.out k hlt2).1
      have c2 : wr.cell? ⟨g, o + k * 2 + 1, none⟩ = some (.string (V k)) := by rw [HB.out.cell (p := ⟨g, o + k * 2 + 1, none⟩) hg]; exact (HA.out k hlt2).2
      have h0 : (0 : Int) ≤ (k : Int) := by omega
      have h1 : (k : Int) < (n : Int) := by omega
      go_wp2_with fail
      refine (szHead_any (K k) (V k) r wr (HK.out k hlt2).1 (HK.out k hlt2).2 (by omega) (by omega)).mono ?_
      rintro e w1 ⟨r1, rfl, hr2, hr3, b1⟩
      have B1 := Seg.hid (HB.out.trans (b1.mono HB.out.size))
      clear b1
      by_cases hneg : r1 < 0
      · go_wp2
        go_ret
        exact ⟨-1, rfl, by omega, by omega, fun h => absurd h (by omega), B1.out⟩
      · go_wp2
        go_roundw
        case rel => exact ⟨k + 1, r1, by omega, rfl, by go_num, by omega, by omega, B1.out⟩
        case measure => simp [intOf]; omega
    · have : k = n := by omega
      subst this
      go_wp2
      go_ret
      exact ⟨r, rfl, by omega, by omega, fun _ => by omega, HB.out⟩

theorem szHeadS_none (A : Option Addr) (c : Nat) (l : Int) (w : World) (h3 : -1 ≤ l) (h4 : l ≤ 1048576) :
    Calls Try.prog 80 #[.slice A 0 c, .int .i64 l] w fun e w' => ∃ r, e = .returned (.int .i64 r) ∧ -1 ≤ r ∧ r ≤ l ∧ Below w.heap.size w w' := by
  go_enter Try.func80, Try.ntmps80
  by_cases hlt : l < 0
  · go_wp2
    go_ret
    exact ⟨_, rfl, by omega, by omega, Below.refl _ _⟩
  go_wp2
  go_loop [1, 5] (fun x i => i = .int .i64 0 ∧ ∃ r, x = .int .i64 r ∧ 0 ≤ r ∧ r ≤ l) (fun _ _ => 0)
  case atStart => exact ⟨rfl, _, rfl, by omega, by omega⟩
  case round =>
    obtain ⟨rfl, r, rfl, hr0, hr1⟩ := hrel
    go_wp2
    go_ret
    exact ⟨r, rfl, by omega, by omega, Below.refl _ _⟩

theorem szHeadS_any (v : Value) (hs : List Hd) (l : Int) (w : World) (lo b : Nat) (h3 : -1 ≤ l) (h4 : l ≤ 1048576) (hv : Heads w lo b v hs) (hb : b ≤ w.heap.size) (hf : ∀ i, i < hs.length → FineH (hs.getD i default)) :
    Calls Try.prog 80 #[v, .int .i64 l] w fun e w' => ∃ r, e = .returned (.int .i64 r) ∧ -1 ≤ r ∧ r ≤ l ∧ (0 ≤ r → (hs.length : Int) ≤ l) ∧ Below w.heap.size w w' := by
  obtain ⟨hn, A, c, rfl, h⟩ := hv
  by_cases hz : hs.length = 0
  · rw [hz]
    exact (szHeadS_none A c l w h3 h4).mono fun e w' ⟨r, a1, a2, a3, a4⟩ => ⟨r, a1, a2, a3, fun h => by omega, a4⟩
  obtain ⟨g, o, rfl, hg, hc, hcell, _⟩ := h.resolve_left hz
  exact szHeadS_core g o hs.length c (fun i => (hs.getD i default).key) (fun i => (hs.getD i default).val) l w h3 h4 hn hc (by omega) (fun i hi => hf i hi) (fun i hi => Heads.cell0 hcell i hi)

theorem info2 : (Try.prog.info? 94).map (fun i => (i.zero, i.size, i.bytes)) = some (some (.agg #[.string ByteArray.empty, .string ByteArray.empty]), 2, 32) := by kernel_rfl

set_option maxHeartbeats 400000 in
theorem toHeadS_core (g o n c : Nat) (K V : Nat → ByteArray) (w : World) (hn : n ≤ 1048576) (hc : n ≤ c) (hg : g < w.heap.size)
    (ha : ∀ i, i < n → w.cell? ⟨g, o + i * 2, none⟩ = some (.string (K i)) ∧ w.cell? ⟨g, o + i * 2 + 1, none⟩ = some (.string (V i))) :
    Calls Try.prog 81 #[.slice (some ⟨g, o, none⟩) n c] w fun e w' => ∃ v, e = .returned v ∧ Row w' w.heap.size w'.heap.size 2 v n (fun i j => if j = 0 then .string (K i) else .string (V i)) ∧ Below w.heap.size w w' := by
  obtain ⟨i0, hi, hz0, hz1, hz2⟩ := info_parts info2
  have HA := Seg.hid ha
  clear ha
  go_enter Try.func81, Try.ntmps81
  go_wp2_with (at_make; refine wpList_make_full _ rfl _ _ 51 rfl w.heap.size 94 i0 _ 2 Try.underlying51 hi hz0 hz1 .i64 .i64 _ _ n rfl rfl rfl rfl (by rw [hz2]; omega) (by unfold maxLen; omega) (Nat.le_refl _) ?_; intro w1 hown hgr)
  have hb1 := (Below.refl w.heap.size w).grown hgr (Nat.le_refl _) (fun k hk => by cases hk)
  have HM := Seg.hid (Mine.of_made hown hown.1)
  have HB := Seg.hid hb1
  clear hown hgr hb1 hi hz0 hz1 hz2
  go_loopw [4] (fun i wr => ∃ (j : Nat) (F : Nat → Value), j ≤ n ∧ i = .int .i64 j ∧ Hid (Mine wr 94 2 w.heap.size n F ∧ Below w.heap.size w wr ∧ ∀ i, i < j → F (i * 2) = .string (K i) ∧ F (i * 2 + 1) = .string (V i))) (fun i _ => n - (intOf i).toNat)
  case atStart => exact ⟨0, _, Nat.zero_le _, rfl, HM.out, HB.out, fun i hi => absurd hi (by omega)⟩
  case round =>
    clear HM HB
    obtain ⟨j, F, hj, rfl, HR⟩ := hrel
    by_cases hlt : j < n
    · have c1 : wr.cell? ⟨g, o + j * 2, none⟩ = some (.string (K j)) := by rw [HR.out.2.1.cell (p := ⟨g, o + j * 2, none⟩) hg]; exact (HA.out j hlt).1
      have c2 : wr.cell? ⟨g, o + j * 2 + 1, none⟩ = some (.string (V j)) := by rw [HR.out.2.1.cell (p := ⟨g, o + j * 2 + 1, none⟩) hg]; exact (HA.out j hlt).2
      have h0 : (0 : Int) ≤ (j : Int) := by omega
      have h1 : (j : Int) < (n : Int) := by omega
      go_wp2_with fail
      refine (toHead_any (K j) (V j) wr).mono ?_
      rintro e w1 ⟨rfl, b1⟩
      have M1 : Hid (Mine w1 94 2 w.heap.size n F) := HR.out.1.below b1 HR.out.1.lt
      have B1 := Seg.hid (HR.out.2.1.trans (b1.mono HR.out.2.1.size))
      clear b1
      have d1 := M1.out.cell (j * 2) (by omega)
      have d2 := M1.out.cell (j * 2 + 1) (by omega)
      have f1 := M1.out.frozen (j * 2)
      have f2 := M1.out.frozen (j * 2 + 1)
      have M2 := Seg.hid ((M1.out.set (j * 2) (.string (K j))).set (j * 2 + 1) (.string (V j)))
      have B2 := Seg.hid ((B1.out.setCell (p := ⟨w.heap.size, j * 2, none⟩) (Nat.le_refl _) (.string (K j))).setCell (p := ⟨w.heap.size, j * 2 + 1, none⟩) (Nat.le_refl _) (.string (V j)))
      go_wp2
      go_roundw
      case rel =>
        refine ⟨j + 1, _, by omega, by go_num, M2.out, B2.out, fun i hi => ?_⟩
        have hr := HR.out.2.2
        by_cases he : i = j
        · subst he; simp
        · have := hr i (by omega)
          simp [show ¬ i * 2 = j * 2 + 1 by omega, show ¬ i * 2 = j * 2 by omega, show ¬ i * 2 + 1 = j * 2 by omega, this]
      case measure => simp [intOf]; omega
    · have : j = n := by omega
      subst this
      go_wp2
      go_ret
      exact ⟨_, rfl, HR.out.1.row (by omega) HR.out.1.lt (Nat.le_refl _) (fun i hi q hq => row2 (HR.out.2.2 i hi) q hq), HR.out.2.1⟩

set_option maxHeartbeats 400000 in
theorem toHeadS_none (A : Option Addr) (c : Nat) (w : World) :
    Calls Try.prog 81 #[.slice A 0 c] w fun e w' => ∃ v, e = .returned v ∧ (∃ A c, v = .slice A 0 c) ∧ Below w.heap.size w w' := by
  obtain ⟨i0, hi, hz0, hz1, hz2⟩ := info_parts info2
  go_enter Try.func81, Try.ntmps81
  go_wp2_with (at_make; refine wpList_make_full _ rfl _ _ 51 rfl w.heap.size 94 i0 _ 2 Try.underlying51 hi hz0 hz1 .i64 .i64 _ _ 0 rfl rfl rfl rfl (by omega) (by unfold maxLen; omega) (Nat.le_refl _) ?_; intro w1 hown hgr)
  have hb1 := (Below.refl w.heap.size w).grown hgr (Nat.le_refl _) (fun k hk => by cases hk)
  have HB := Seg.hid hb1
  clear hown hgr hb1 hi hz0 hz1 hz2
  go_loop [4] (fun i => i = .int .i64 0) (fun i => 0)
  case atStart => rfl
  case round =>
    subst hrel
    go_wp2
    go_ret
    exact ⟨_, rfl, ⟨_, _, rfl⟩, HB.out⟩

theorem toHeadS_any (v : Value) (hs : List Hd) (w : World) (lo b : Nat) (hv : Heads w lo b v hs) (hb : b ≤ w.heap.size) (hl : hs.length ≤ 1048576) :
    Calls Try.prog 81 #[v] w fun e w' => ∃ v', e = .returned v' ∧ Heads w' w.heap.size w'.heap.size v' hs ∧ Below w.heap.size w w' := by
  obtain ⟨hn, A, c, rfl, h⟩ := hv
  by_cases hz : hs.length = 0
  · rw [hz]
    refine (toHeadS_none A c w).mono fun e w' ⟨v', a1, ⟨A', c', a2⟩, a3⟩ => ⟨v', a1, ⟨hn, A', c', ?_, .inl hz⟩, a3⟩
    rw [a2, hz]
  obtain ⟨g, o, rfl, hg, hc, hcell, _⟩ := h.resolve_left hz
  exact toHeadS_core g o hs.length c (fun i => (hs.getD i default).key) (fun i => (hs.getD i default).val) w hl hc (by omega) (fun i hi => Heads.cell0 hcell i hi)

theorem eqHeadS_none (A A' : Option Addr) (c c' : Nat) (w : World) :
    Calls Try.prog 65 #[.slice A 0 c, .slice A' 0 c'] w fun e w' => e = .returned (.bool true) ∧ Below w.heap.size w w' := by
  go_enter Try.func65, Try.ntmps65
  go_wp2
  go_loop [5] (fun i => i = .int .i64 0) (fun _ => 0)
  case atStart => rfl
  case round =>
    subst hrel
    go_wp2
    go_ret
    exact ⟨rfl, Below.refl _ _⟩

set_option maxHeartbeats 400000 in
theorem eqHeadS_core (g o g' o' n c c' : Nat) (K V : Nat → ByteArray) (w : World) (hn : n ≤ 9223372036854775807) (hc : n ≤ c) (hc' : n ≤ c') (hg : g < w.heap.size) (hg' : g' < w.heap.size)
    (ha : ∀ i, i < n → w.cell? ⟨g, o + i * 2, none⟩ = some (.string (K i)) ∧ w.cell? ⟨g, o + i * 2 + 1, none⟩ = some (.string (V i)))
    (ha' : ∀ i, i < n → w.cell? ⟨g', o' + i * 2, none⟩ = some (.string (K i)) ∧ w.cell? ⟨g', o' + i * 2 + 1, none⟩ = some (.string (V i))) :
    Calls Try.prog 65 #[.slice (some ⟨g, o, none⟩) n c, .slice (some ⟨g', o', none⟩) n c'] w fun e w' => e = .returned (.bool true) ∧ Below w.heap.size w w' := by
  have HA := Seg.hid ha; have HA' := Seg.hid ha'
  clear ha ha'
  go_enter Try.func65, Try.ntmps65
  go_wp2
  go_loopw [5] (fun i wr => ∃ (k : Nat), k ≤ n ∧ i = .int .i64 k ∧ Hid (Below w.heap.size w wr)) (fun i _ => n - (intOf i).toNat)
  case atStart => exact ⟨0, Nat.zero_le _, rfl, Below.refl _ _⟩
  case round =>
    obtain ⟨k, hk, rfl, HB⟩ := hrel
    by_cases hlt2 : k < n
    · have c1 : wr.cell? ⟨g, o + k * 2, none⟩ = some (.string (K k)) := by rw [HB.out.cell (p := ⟨g, o + k * 2, none⟩) hg]; exact (HA.out k hlt2).1
      have c2 : wr.cell? ⟨g, o + k * 2 + 1, none⟩ = some (.string (V k)) := by rw [HB.out.cell (p := ⟨g, o + k * 2 + 1, none⟩) hg]; exact (HA.out k hlt2).2
      have c3 : wr.cell? ⟨g', o' + k * 2, none⟩ = some (.string (K k)) := by rw [HB.out.cell (p := ⟨g', o' + k * 2, none⟩) hg']; exact (HA'.out k hlt2).1
      have c4 : wr.cell? ⟨g', o' + k * 2 + 1, none⟩ = some (.string (V k)) := by rw [HB.out.cell (p := ⟨g', o' + k * 2 + 1, none⟩) hg']; exact (HA'.out k hlt2).2
      have h0 : (0 : Int) ≤ (k : Int) := by omega
      have h1 : (k : Int) < (n : Int) := by omega
      go_wp2_with fail
      go_region_with (go_at_call 72; refine (eqHead_any _ _ _).mono ?_; rintro e w1 ⟨rfl, b1⟩; have B1 : Hid (Below w.heap.size w w1) := chainD HB.out b1; clear b1)
      all_goals
        go_wp2
        go_roundw
        case rel => exact ⟨k + 1, by omega, by go_num, B1.out⟩
        case measure => simp [intOf]; omega
    · have : k = n := by omega
      subst this
      go_wp2
      go_ret
      exact ⟨rfl, HB.out⟩

theorem eqHeadS_any (v v' : Value) (hs : List Hd) (w : World) (lo lo' b : Nat) (hv : Heads w lo b v hs) (hv' : Heads w lo' b v' hs) (hb : b ≤ w.heap.size) :
    Calls Try.prog 65 #[v, v'] w fun e w' => e = .returned (.bool true) ∧ Below w.heap.size w w' := by
  obtain ⟨hn, A, c, rfl, h⟩ := hv
  obtain ⟨_, A', c', rfl, h'⟩ := hv'
  by_cases hz : hs.length = 0
  · rw [hz]
    exact eqHeadS_none A A' c c' w
  obtain ⟨g, o, rfl, hg, hc, hcell, _⟩ := h.resolve_left hz
  obtain ⟨g', o', rfl, hg', hc', hcell', _⟩ := h'.resolve_left hz
  exact eqHeadS_core g o g' o' hs.length c c' (fun i => (hs.getD i default).key) (fun i => (hs.getD i default).val) w hn hc hc' (by omega) (by omega) (fun i hi => Heads.cell0 hcell i hi) (fun i hi => Heads.cell0 hcell' i hi)
end Go.Proofs.Ytdnfnjlnfmafkaa.Sz
namespace Go.Proofs.Ytdnfnjlnfmafkaa.RecW
set_option maxRecDepth 8000
open Go.RowKit
open Recs
set_option linter.unusedVariables false

set_option maxHeartbeats 400000 in
theorem szRecord_any (v : Value) (r : Rec) (l : Int) (w : World) (lo b : Nat) (h3 : -1 ≤ l) (h4 : l ≤ 1048576) (hv : RecAt w lo b v r) (hb : b ≤ w.heap.size) (hf : FineR r) :
    Calls Try.prog 78 #[v, .int .i64 l] w fun e w' => ∃ q, e = .returned (.int .i64 q) ∧ -1 ≤ q ∧ q ≤ l ∧ (0 ≤ q → FewR r) ∧ Below w.heap.size w w' := by
  obtain ⟨hv, rfl, hh⟩ := hv
  obtain ⟨f1, f2, f3, f4⟩ := hf
  have F4 := Seg.hid f4
  have HH := Seg.hid hh
  unfold maxLen at f1 f2 f3
  obtain ⟨hn, A, c, hve, _⟩ := id hh
  clear hh f4
  unfold recVal
  subst hve
  go_enter Try.func78, Try.ntmps78
  by_cases k1 : l - (r.key.size : Int) < 0
  · go_wp2
    go_ret
    exact ⟨_, rfl, by omega, by omega, fun h => absurd h (by omega), below1 _ _⟩
  by_cases k2 : l - (r.key.size : Int) - (r.val.size : Int) < 0
  · go_wp2
    go_ret
    exact ⟨_, rfl, by omega, by omega, fun h => absurd h (by omega), below1 _ _⟩
  go_wp2_with fail
  refine (Sz.szHeadS_any _ r.heads _ (w.alloc _) lo b (by omega) (by omega) (HH.out.below ((below1 w _).mono hb)) (by rw [hsz]; omega) F4.out).mono ?_
  rintro e w1 ⟨q, rfl, q1, q2, q3, b1⟩
  have B1 := Seg.hid (chain (below1 w _) b1)
  have Q3 := Seg.hid q3
  clear b1 q3
  by_cases hq : q < 0
  · go_wp2
    go_ret
    exact ⟨_, rfl, by omega, by omega, fun h => absurd h (by omega), B1.out⟩
  · go_wp2
    go_ret
    exact ⟨q, rfl, by omega, by omega, fun h => by have := Q3.out h; unfold FewR; omega, B1.out⟩

def recArr (r : Rec) (hv : Value) : Array Value := #[.int .i64 r.time, .bool r.keyed, .string r.key, .bool r.gone, .string r.val, hv]
theorem recArr_one (r : Rec) (hv : Value) (h : hv.oneCell' = true) : (recArr r hv).all (·.oneCell') = true := by
  simp [recArr, Value.oneCell'] at h ⊢
  exact h
theorem info29 : (Try.prog.info? 53).map (·.size) = some 6 := by kernel_rfl
set_option maxHeartbeats 400000 in
theorem toRecord_any (v : Value) (r : Rec) (w : World) (lo b : Nat) (hv : RecAt w lo b v r) (hb : b ≤ w.heap.size) (hf : FewR r) :
    Calls Try.prog 79 #[v] w fun e w' => ∃ v', e = .returned v' ∧ RecAt w' w.heap.size w'.heap.size v' r ∧ Below w.heap.size w w' := by
  obtain ⟨hv, rfl, hh⟩ := hv
  have HH := Seg.hid hh
  obtain ⟨hn, A, c, hve, _⟩ := id hh
  clear hh
  unfold recVal
  subst hve
  go_enter Try.func79, Try.ntmps79
  go_wp2_with fail
  refine (Sz.toHeadS_any _ r.heads (((w.alloc _).alloc _).alloc _) lo b (HH.out.below ((below3 w _ _ _).mono hb)) (by rw [hsz, hsz, hsz]; omega) hf).mono ?_
  rintro e w1 ⟨v', rfl, hh1, b1⟩
  have B1 := Seg.hid (chain (below3 w _ _ _) b1)
  have T1 := (b1.block (w.heap.size + 1) (by rw [hsz, hsz, hsz]; omega)).trans (at3 w _ _ _)
  have T2 := (b1.block (w.heap.size + 1 + 1) (by rw [hsz, hsz, hsz]; omega)).trans (Cells.at3' w _ _ _)
  have HH1 := Seg.hid hh1
  obtain ⟨_, A', c', hve, _⟩ := id hh1
  clear hh1 b1
  subst hve
  have c5 := cell_of_row w1 (w.heap.size + 1 + 1) 5 _ _ _ T2
  have z5 := frozen_of_row w1 (w.heap.size + 1 + 1) 5 _ _ T2
  have H3 : Hid ((w1.setCell ⟨w.heap.size + 1 + 1, 5, none⟩ (.slice A' r.heads.length c')).heap[w.heap.size + 1 + 1]? = some (.cells (recArr r (.slice A' r.heads.length c')) 53 (0, 0))) := heap_setCell_same w1 (w.heap.size + 1 + 1) 5 _ _ (.slice A' r.heads.length c') T2
  have T4 := (heap_setCell_other w1 ⟨w.heap.size + 1 + 1, 5, none⟩ (w.heap.size + 1) (.slice A' r.heads.length c') (by simp)).trans T1
  have H5 := Seg.hid (Cells.there_of T4)
  have H4 := Seg.hid (Cells.whole (vs := recArr r (.slice A' r.heads.length c')) T4 rfl)
  have B2 := Seg.hid (Cells.below_setCells (g := w.heap.size + 1) (by omega) (recArr r (.slice A' r.heads.length c')).toList 0 _ _ (B1.out.setCell (p := ⟨w.heap.size + 1 + 1, 5, none⟩) (by simp; omega) (.slice A' r.heads.length c')))
  have HF : Hid (Heads ((w1.setCell ⟨w.heap.size + 1 + 1, 5, none⟩ (.slice A' r.heads.length c')).setCells (w.heap.size + 1) 0 (recArr r (.slice A' r.heads.length c')).toList) w.heap.size ((w1.setCell ⟨w.heap.size + 1 + 1, 5, none⟩ (.slice A' r.heads.length c')).setCells (w.heap.size + 1) 0 (recArr r (.slice A' r.heads.length c')).toList).heap.size (.slice A' r.heads.length c') r.heads) := by
    refine (Heads.keep HH1.out (fun g h1 h2 => ?_)).mono ?_ ?_
    · rw [hsz, hsz, hsz] at h1
      rw [Cells.heap_setCells_other _ _ (by omega), heap_setCell_other _ _ _ _ (by show _ ≠ w.heap.size + 1 + 1; omega)]
    · rw [hsz, hsz, hsz]; omega
    · rw [Cells.size_setCells]; simp
  clear T1 T2 T4
  simp at c5
  go_wp2_with (first | (refine wpList_load_row rfl 53 _ rfl (w.heap.size + 1 + 1) rfl _ _ _ _ H3.out Try.underlying53 rfl info29 ?_) | (refine wpList_store_mid rfl 53 _ _ rfl (w.heap.size + 1) 0 (recArr r (.slice A' r.heads.length c')) rfl rfl H5.out info29 (recArr_one _ _ rfl) ?_))
  exact bodyPost_ret (v := recVal r (.slice A' r.heads.length c')) (results_cell_row rfl _ _ (w.heap.size + 1) _ _ _ _ rfl H4.out Try.underlying53 rfl info29) rfl ⟨_, rfl, ⟨_, rfl, HF.out⟩, B2.out⟩

set_option maxHeartbeats 400000 in
theorem eqRecord_any (v v' : Value) (r : Rec) (w : World) (lo lo' b : Nat) (hv : RecAt w lo b v r) (hv' : RecAt w lo' b v' r) (hb : b ≤ w.heap.size) :
    Calls Try.prog 50 #[v, v'] w fun e w' => e = .returned (.bool true) ∧ Below w.heap.size w w' := by
  obtain ⟨hv, rfl, hh⟩ := hv
  obtain ⟨hv', rfl, hh'⟩ := hv'
  have HH := Seg.hid hh; have HH' := Seg.hid hh'
  obtain ⟨hn, A, c, hve, _⟩ := id hh
  obtain ⟨_, A', c', hve', _⟩ := id hh'
  clear hh hh'
  unfold recVal
  subst hve hve'
  go_enter Try.func50, Try.ntmps50
  go_wp2_with fail
  refine (Sz.eqHeadS_any _ _ r.heads ((w.alloc _).alloc _) lo lo' b (HH.out.below ((below2 w _ _).mono hb)) (HH'.out.below ((below2 w _ _).mono hb)) (by rw [hsz, hsz]; omega)).mono ?_
  rintro e w1 ⟨rfl, b1⟩
  have B1 := Seg.hid (chain (below2 w _ _) b1)
  clear b1
  go_wp2
  go_ret
  exact ⟨rfl, B1.out⟩
end Go.Proofs.Ytdnfnjlnfmafkaa.RecW
