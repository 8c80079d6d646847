/- A right group as the program asks: on plain data. -/
import Derived.Test.YtfdfhhiaalbfiaaGpP
import Derived.Test.YtfdfhhiaalbfiaaWnI
namespace Go.Proofs.Ytfdfhhiaalbfiaa.GmP
set_option maxRecDepth 8000
open Go.RowKit
open Ls Lp WnP GpP HoP HoI
open TpP (sl aheadO)
open Recs (hsz below1 below2 chain)
set_option linter.unusedVariables false
def toW (m : Mbr) : Wnt := ⟨m.name, m.wants, m.owns⟩
def stat (l : List Mbr) (k : Nat) : Bool := stO (l.getD k default).sttc && !((l.take k).any fun o => sts o (l.getD k default))
def stats (l : List Mbr) (k : Nat) : Bool := ((List.range l.length).drop k).all (stat l)
theorem stats_step {l : List Mbr} {k : Nat} (h : k < l.length) : stats l k = (stat l k && stats l (k + 1)) := by
  unfold stats
  rw [List.drop_eq_getElem_cons (by simpa using h)]
  simp
theorem stats_end {l : List Mbr} {k : Nat} (h : l.length ≤ k) : stats l k = true := by
  unfold stats
  rw [List.drop_eq_nil_of_le (by simpa using h)]
  rfl
def okB (t : Grp) (m : Mbr) : Bool := inR 0 m.beat t.now && (inR 0 m.round t.round && slots m.target)
def tgs (l : List Mbr) : List (List Slt) := l.map fun m => m.target
def once (l : List Mbr) : Bool := decide (mvs (hlds 0 f0 (tgs l)) 0 (tgs l) = 0)
def memb (t : Grp) : Bool := wants (t.members.map toW) && (stats t.members 0 && (t.members.all (okB t) && once t.members))
theorem tgs_getD (l : List Mbr) {k : Nat} (hk : k < l.length) : (tgs l).getD k default = (l.getD k default).target := by simp [tgs, hk]
theorem toW_getD (l : List Mbr) {k : Nat} (hk : k < l.length) : (l.map toW).getD k default = toW (l.getD k default) := by simp [hk]
theorem any3 (l : List Mbr) (p q r : Mbr → Bool) : (l.any fun o => p o || (q o || r o)) = (l.any p || (l.any q || l.any r)) := by
  induction l with
  | nil => rfl
  | cons a t ih =>
    simp only [List.any_cons, ih]
    cases p a <;> cases q a <;> cases r a <;> simp
theorem take_map_any (l : List Mbr) (k : Nat) (p : Wnt → Bool) : ((l.map toW).take k).any p = (l.take k).any fun o => p (toW o) := by
  rw [← List.map_take, List.any_map]; rfl
theorem tgt_iff (l : List Mbr) {k : Nat} (hk : k < l.length) : ((l.take k).any fun o => (l.getD k default).target.any (isIn o.target)) = false ↔ ∀ j, j < k → ∀ s ∈ (l.getD k default).target, s ∉ (l.getD j default).target := by
  rw [List.any_eq_false]
  constructor
  · intro h j hj s hs hc
    refine h (l.getD j default) ?_ ?_
    · have e : l.getD j default = (l.take k)[j]'(by rw [List.length_take]; omega) := by simp [show j < l.length by omega]
      rw [e]; exact List.getElem_mem _
    · rw [List.any_eq_true]
      exact ⟨s, hs, isIn_iff.2 hc⟩
  · intro h m hm hc
    obtain ⟨j, hj, rfl⟩ := List.getElem_of_mem hm
    rw [List.length_take] at hj
    rw [List.any_eq_true] at hc
    obtain ⟨s, hs, hi⟩ := hc
    refine h j (by omega) s hs ?_
    have := isIn_iff.1 hi
    simpa [show j < l.length by omega] using this
theorem mem_eq (t : Grp) {k : Nat} (hk : k < t.members.length) : mem t k = (wn (t.members.map toW) k && (stat t.members k && (okB t (t.members.getD k default) && !((t.members.take k).any fun o => (t.members.getD k default).target.any (isIn o.target))))) := by
  have e1 : pvs (t.members.map toW) k = (pvs t.members k).map toW := by
    unfold pvs
    split
    · rfl
    · rw [toW_getD _ (by omega)]; rfl
  have e2 : ((pvs t.members k).map toW).map (·.name) = (pvs t.members k).map (·.name) := by
    cases pvs t.members k <;> rfl
  unfold mem okM wn okW stat okB
  rw [toW_getD _ hk, e1, e2, take_map_any]
  unfold clash
  rw [any3]
  generalize t.members.getD k default = m at *
  generalize ((t.members.take k).any fun o => sts o m) = a1
  have hm : ((t.members.take k).any fun o => meet (toW o) (toW m)) = (t.members.take k).any fun o => m.owns.any (isIn o.owns) := rfl
  rw [hm]
  generalize ((t.members.take k).any fun o => m.owns.any (isIn o.owns)) = a2
  generalize ((t.members.take k).any fun o => m.target.any (isIn o.target)) = a3
  show _ = ((((Nm.nameOk m.name && aheadO ((pvs t.members k).map (·.name)) m.name) && (names m.wants && slots m.owns)) && !a2) && _)
  generalize Nm.nameOk m.name = b1
  generalize aheadO _ m.name = b2
  generalize stO m.sttc = b3
  generalize names m.wants = b4
  generalize inR 0 m.beat t.now = b5
  generalize inR 0 m.round t.round = b6
  generalize slots m.owns = b7
  generalize slots m.target = b8
  cases a1 <;> cases a2 <;> cases a3 <;> cases b1 <;> cases b2 <;> cases b3 <;> cases b4 <;> cases b5 <;> cases b6 <;> cases b7 <;> cases b8 <;> rfl
theorem memb_eq (t : Grp) : memb t = (decide (t.members.length ≤ 30) && mems t 0) := by
  have h1 : mems t 0 = true ↔ ∀ k, k < t.members.length → mem t k = true := by simp [mems]
  have h2 : wns (t.members.map toW) 0 = true ↔ ∀ k, k < t.members.length → wn (t.members.map toW) k = true := by simp [wns]
  have h3 : stats t.members 0 = true ↔ ∀ k, k < t.members.length → stat t.members k = true := by simp [stats]
  rw [Bool.eq_iff_iff]
  unfold memb wants once
  simp only [Bool.and_eq_true, decide_eq_true_eq, h1, h2, h3, once_iff, apart_idx, List.length_map]
  constructor
  · rintro ⟨⟨hn, a⟩, b, c, d⟩
    refine ⟨hn, fun k hk => ?_⟩
    rw [mem_eq t hk]
    simp only [Bool.and_eq_true, Bool.not_eq_true']
    refine ⟨a k hk, b k hk, ?_, (tgt_iff _ hk).2 fun j hj s hs => ?_⟩
    · rw [List.all_eq_true] at c
      have := c t.members[k] (List.getElem_mem _)
      simpa [hk] using this
    · have := d j k hj (by simpa [tgs] using hk) s (by rw [tgs_getD _ hk]; exact hs)
      rw [tgs_getD _ (by omega)] at this
      exact this
  · rintro ⟨hn, h⟩
    have h' : ∀ k, k < t.members.length → _ := fun k hk => (mem_eq t hk) ▸ h k hk
    simp only [Bool.and_eq_true, Bool.not_eq_true'] at h'
    refine ⟨⟨hn, fun k hk => (h' k hk).1⟩, fun k hk => (h' k hk).2.1, ?_, fun j k hjk hk s hs => ?_⟩
    · rw [List.all_eq_true]
      intro m hm
      obtain ⟨j, hj, rfl⟩ := List.getElem_of_mem hm
      have := (h' j hj).2.2.1
      simpa [hj] using this
    · have hk' : k < t.members.length := by simpa [tgs] using hk
      rw [tgs_getD _ hk'] at hs
      rw [tgs_getD _ (by omega)]
      exact (tgt_iff _ hk').1 (h' k hk').2.2.2 j hjk s hs
theorem group_eq (t : Grp) : groupOk t = (inR 1 t.kind 3 && (inR 1 t.timeout 1000000000000 && (inR 0 t.now 1000000000000 && (inR 0 t.round 1000000000 && (TpP.topics t.topics && memb t))))) := by
  unfold groupOk outer
  rw [memb_eq]
  simp only [Bool.and_assoc]
theorem sz_wants (l : List Mbr) : szL szWnt (l.map toW) ≤ szL szMbr l := by
  unfold szL
  rw [List.length_map]
  have : tot szWnt (l.map toW) ≤ tot szMbr l := by
    induction l with
    | nil => exact Nat.le_refl _
    | cons a r ih =>
      have e : szWnt (toW a) ≤ szMbr a := by unfold szWnt szMbr toW; simp only; omega
      simp only [List.map_cons, tot]
      omega
  omega
theorem few_tgs {t : Grp} (hn : t.members.length ≤ 30) (h : t.members.all (okB t) = true) : Few (tgs t.members) := by
  rw [List.all_eq_true] at h
  have hs : ∀ i, i < t.members.length → slots (t.members.getD i default).target = true := fun i hi => by
    have := h t.members[i] (List.getElem_mem _)
    simp only [okB, Bool.and_eq_true] at this
    simpa [hi] using this.2.2
  refine ⟨by simpa [tgs] using hn, fun i hi => ?_, fun i hi j hj => ?_⟩
  · have hi' : i < t.members.length := by simpa [tgs] using hi
    rw [tgs_getD _ hi']
    have := hs i hi'
    rw [SlI.slots_asc] at this
    simp only [Bool.and_eq_true, decide_eq_true_eq] at this
    exact this.1
  · have hi' : i < t.members.length := by simpa [tgs] using hi
    rw [tgs_getD _ hi'] at hj ⊢
    have := hs i hi'
    rw [SlI.slots_asc] at this
    simp only [Bool.and_eq_true, List.all_eq_true] at this
    generalize (t.members.getD i default).target = us at *
    have h2 := this.2.2 us[j] (List.getElem_mem _)
    have e : us.getD j default = us[j] := by simp [hj]
    rw [e]
    generalize us[j] = s at *
    simp only [okS, Bool.and_eq_true] at h2
    have h3 := WnI.name_small h2.1
    have h4 := inR_true h2.2
    exact ⟨by unfold maxLen; omega, WalkArith.wf_i64 ⟨by omega, by omega⟩⟩
end Go.Proofs.Ytfdfhhiaalbfiaa.GmP
