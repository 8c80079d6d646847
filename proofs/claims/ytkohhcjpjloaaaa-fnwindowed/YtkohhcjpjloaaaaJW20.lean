/- A region that draws its order, walked operation by operation with S held: one operation taken first, one passed over; A region that draws its order, walked with S held but behind the operations X (a store, say, of the very cell that the others read), which wait for all that is taken first. -/
import Derived.WalkKit
import Derived.Deep.RegionHeld3
import Derived.RegionTactic
import Derived.Deep.MidRow
import Derived.Deep.RegionLaw
import Derived.OrdersHeld
import Derived.Test.YtkohhcjpjloaaaaRows
namespace Go.Proofs.Ytkohhcjpjloaaaa.HdK
set_option maxRecDepth 8000
open Go.RowKit
section
variable {P : Program} {ops : Array Oper} {Q : Exit → Act → World → Prop} {md : Region.Mode} {S : World → Prop}
theorem skp (i : Nat) (d : Option Tmp) {oi : Oper} {fuel : Nat} {listed : Array Bool} {a : Act} {w : World} (hi : ops[i]? = some oi) (hd : oi.dst = d)
    (h : wpAnyH P md ops Q S fuel (listed.setIfInBounds i true) (a.put d undef) w)
    (hs : Region.noSelect ops = true := by kernel_rfl) (hf : Region.free md ops listed i = true := by kernel_rfl) (hr : (Region.ready md ops listed).contains i = true := by kernel_rfl)
    (hQ : ∀ c a w, Q (.panic c) (a.put d undef) w → Q (.panic c) a w := by exact fun _ _ _ h => h) (hw : Region.wanted oi (yielded ops a.tmps) = false := by rfl) (hS : S w := by assumption) :
    wpAnyH P md ops Q S (fuel + 1) listed a w := by
  subst hd; exact wpAnyH_take hi hs hf hr hQ (Or.inr ⟨hw, rfl⟩) hS h
theorem tke (i : Nat) (d : Option Tmp) (v : Value) {oi : Oper} {fuel : Nat} {listed : Array Bool} {a : Act} {w : World} (hi : ops[i]? = some oi) (hd : oi.dst = d)
    (h : wpAnyH P md ops Q S fuel (listed.setIfInBounds i true) (a.put d v) w)
    (hs : Region.noSelect ops = true := by kernel_rfl) (hf : Region.free md ops listed i = true := by kernel_rfl) (hr : (Region.ready md ops listed).contains i = true := by kernel_rfl)
    (hQ : ∀ c a w, Q (.panic c) (a.put d v) w → Q (.panic c) a w := by exact fun _ _ _ h => h) (hw : Region.wanted oi (yielded ops a.tmps) = true := by rfl) (hy : ∀ w, S w → (execOp a.eval oi).run P w = .ok (.value v) w := by intro w hSw; (try dsimp only at hSw); go_simp) (hS : S w := by assumption) :
    wpAnyH P md ops Q S (fuel + 1) listed a w := by
  subst hd; exact wpAnyH_take hi hs hf hr hQ (Or.inl ⟨hw, hy⟩) hS h
end
theorem step_store_mid {P : Program} {ops : Array Oper} {op : Oper} {a : Act} {w : World} {K : Act → World → Prop} {Q : Exit → Act → World → Prop} {E : Prop} (hgd : op.guard = none) (ty : TypeId) (x y : Operand) (ho : op.op = .store ty x y) (b o : Nat) (cells : Array Value)
    (hx : a.eval x = .pointer (some ⟨b, o, none⟩)) (hy : a.eval y = .agg cells) (ht : w.there b o cells.size) (hi : (P.info? ty).map (·.size) = some cells.size) (h1 : cells.all (·.oneCell') = true) (h : K (a.put op.dst undef) (w.setCells b o cells.toList)) :
    if Region.wanted op (yielded ops a.tmps) = true then Oper.wp P op a w K Q else E := by
  have hw : Region.wanted op (yielded ops a.tmps) = true := by simp [Region.wanted, hgd]
  rw [if_pos hw]
  exact wp_store_mid ty x y ho b o cells hx hy ht hi h1 h
end Go.Proofs.Ytkohhcjpjloaaaa.HdK
namespace Go.Proofs.Ytkohhcjpjloaaaa.OuK
set_option maxRecDepth 8000
open Go.RowKit
section
variable {P : Program} {ops : Array Oper} {Q : Exit → Act → World → Prop} {md : Region.Mode} {S : World → Prop} {X : List Nat}
/-- What has come up stands behind all that it waits for. -/
def Shutd (md : Region.Mode) (ops : Array Oper) (l : Array Bool) : Prop :=
  ∀ k o, ops[k]? = some o → l.getD k false = true → ∀ e ∈ o.after, Region.binds md e = true → l.getD e.on false = true
/-- What k waits for, n steps deep. -/
def ups (md : Region.Mode) (ops : Array Oper) : Nat → Nat → List Nat
  | 0, _ => []
  | n + 1, k => match ops[k]? with
    | none => []
    | some o => o.after.toList.flatMap fun e => if Region.binds md e then e.on :: ups md ops n e.on else []
theorem ups_in {l : Array Bool} (hc : Shutd md ops l) : ∀ (n k : Nat), (∀ o, ops[k]? = some o → ∀ e ∈ o.after, Region.binds md e = true → l.getD e.on false = true) → ∀ m, m ∈ ups md ops n k → l.getD m false = true
  | 0, _, _, m, hm => by simp [ups] at hm
  | n + 1, k, h, m, hm => by
    unfold ups at hm
    cases ho : ops[k]? with
    | none => rw [ho] at hm; simp at hm
    | some o =>
      rw [ho] at hm
      simp only [List.mem_flatMap] at hm
      obtain ⟨e, he, hm⟩ := hm
      by_cases hb : Region.binds md e = true
      · rw [if_pos hb] at hm
        have hl := h o ho e (by simpa using he) hb
        rcases List.mem_cons.1 hm with rfl | hm
        · exact hl
        · exact ups_in hc n e.on (fun o' ho' e' he' hb' => hc e.on o' ho' hl e' he' hb') m hm
      · rw [if_neg hb] at hm; cases hm
theorem shutd_set {l : Array Bool} {j : Nat} (hc : Shutd md ops l) (hj : j ∈ Region.ready md ops l) : Shutd md ops (l.setIfInBounds j true) := by
  intro k o hk hl e he hb
  by_cases hjk : j = k
  · subst hjk
    obtain ⟨-, oj, hoj, hall⟩ := mem_ready.1 hj
    rw [hk, Option.some.injEq] at hoj
    subst hoj
    exact getD_set_true (hall e he hb)
  · rw [getD_set_ne false hjk] at hl
    exact getD_set_true (hc k o hk hl e he hb)
/-- As the library's walk with S, but S is not asked behind X. -/
def AnyU (P : Program) (md : Region.Mode) (ops : Array Oper) (Q : Exit → Act → World → Prop) (S : World → Prop) (X : List Nat) : Nat → Array Bool → Act → World → Prop
  | 0, l, a, w => Region.ready md ops l = [] ∧ Q .normal a w
  | n + 1, l, a, w => (Region.ready md ops l = [] → Q .normal a w) ∧ ∀ i ∈ Region.ready md ops l, wpOp P ops Q i (fun a' w' => (i ∉ X → S w') ∧ AnyU P md ops Q S X n (l.setIfInBounds i true) a' w') a w
theorem any_of : ∀ (n : Nat) (l : Array Bool) (a : Act) (w : World), AnyU P md ops Q S X n l a w → wpAny P md ops Q n l a w
  | 0, _, _, _, h => h
  | n + 1, _, _, _, h => ⟨h.1, fun i hi => wpOp_mono (fun a' w' h' => any_of n _ a' w' h'.2) (h.2 i hi)⟩
/-- What all of X wait for may be taken first, as long as S is held. -/
theorem first {i : Nat} {oi : Oper} {v : Value} (hi : ops[i]? = some oi) (hsel : ∀ (j : Nat) (o : Oper) cs b, ops[j]? = some o → o.op ≠ .select cs b)
    (hQ : ∀ c a w, Q (.panic c) (a.put oi.dst v) w → Q (.panic c) a w) (hd : ∀ x, x ∈ X → ∃ n, i ∈ ups md ops n x) (his : i ∉ X) :
    ∀ (n : Nat) (l : Array Bool) (a : Act) (w : World), Shutd md ops l →
      (∀ j oj, ops[j]? = some oj → j ≠ i → l.getD j true = false → (∀ e ∈ oj.after, Region.binds md e = true → e.on ≠ i) → oi.apart ops oj = true) →
      i ∈ Region.ready md ops l → YieldsIf P ops S oi v a → S w →
      AnyU P md ops Q S X n (l.setIfInBounds i true) (a.put oi.dst v) w → AnyU P md ops Q S X (n + 1) l a w := by
  intro n
  induction n with
  | zero =>
    intro l a w _ _ hr hy hS H
    refine ⟨fun h => (by rw [h] at hr; cases hr), fun j hj => ?_⟩
    by_cases hji : j = i
    · subst hji; exact hy.wpOp hi hS ⟨fun _ => hS, H⟩
    · exact absurd (ready_mono hj hji) (by rw [H.1]; simp)
  | succ n ih =>
    intro l a w hc hfree hr hy hS H
    refine ⟨fun h => (by rw [h] at hr; cases hr), fun j hj => ?_⟩
    by_cases hji : j = i
    · subst hji; exact hy.wpOp hi hS ⟨fun _ => hS, H⟩
    have hun : l.getD i true = false := (mem_ready.1 hr).1
    obtain ⟨hjun, oj, hoj, hall⟩ := mem_ready.1 hj
    have off : ∀ m, m = i → l.getD m false ≠ true := fun m hm hl => by
      subst hm
      rcases Nat.lt_or_ge m l.size with h' | h'
      · simp [h'] at hun hl; rw [hun] at hl; cases hl
      · simp [Array.getElem?_eq_none h'] at hl
    have hjs : j ∉ X := fun e => by
      obtain ⟨d, hd⟩ := hd j e
      exact off i rfl (ups_in hc d j (fun o ho e he hb => by rw [hoj, Option.some.injEq] at ho; subst ho; exact hall e he hb) i hd)
    have h2 := wpOp_putIf hoj (hfree j oj hoj hji hjun (fun e he hb => fun h => off e.on h (hall e he hb))) (fun cs b => hsel i oi cs b hi) (fun cs b => hsel j oj cs b hoj) hQ hy (H.2 j (ready_mono hj hji))
    refine wpOp_mono (fun a' w' h3 => ⟨fun _ => h3.2.1 hjs, ih (l.setIfInBounds j true) a' w' (shutd_set hc hj) (fun k ok hk hki hku hno => ?_) (ready_mono hr (Ne.symm hji)) h3.1 (h3.2.1 hjs) ?_⟩) h2
    · refine hfree k ok hk hki ?_ hno
      by_cases hjk : j = k
      · subst hjk; exact hjun
      · rw [getD_set_ne true hjk] at hku; exact hku
    · rw [Array.setIfInBounds_comm _ _ hji]
      exact h3.2.2
/-- A walk's state: what has come up is shut. -/
def Walk (P : Program) (md : Region.Mode) (ops : Array Oper) (Q : Exit → Act → World → Prop) (S : World → Prop) (X : List Nat) (n : Nat) (l : Array Bool) (a : Act) (w : World) : Prop := Shutd md ops l → AnyU P md ops Q S X n l a w
theorem skp (i : Nat) (d : Option Tmp) {oi : Oper} {n : Nat} {l : Array Bool} {a : Act} {w : World} (hi : ops[i]? = some oi) (hd : oi.dst = d)
    (h : Walk P md ops Q S X n (l.setIfInBounds i true) (a.put d undef) w)
    (hs : Region.noSelect ops = true := by kernel_rfl) (hf : Region.free md ops l i = true := by kernel_rfl) (hr : (Region.ready md ops l).contains i = true := by kernel_rfl) (hu : (X.all fun x => (ups md ops 9 x).contains i) = true := by kernel_rfl) (his : i ∉ X := by decide)
    (hQ : ∀ c a w, Q (.panic c) (a.put d undef) w → Q (.panic c) a w := by exact fun _ _ _ h => h) (hw : Region.wanted oi (yielded ops a.tmps) = false := by rfl) (hS : S w := by assumption) :
    Walk P md ops Q S X (n + 1) l a w := fun hc => by
  subst hd
  have hr' : i ∈ Region.ready md ops l := by simpa using hr
  exact first hi (Region.noSelect_spec hs) hQ (fun x hx => ⟨9, by have := List.all_eq_true.1 hu x hx; simpa using this⟩) his n l a w hc (Region.free_spec hi hf) hr' (Or.inr ⟨hw, rfl⟩) hS (h (shutd_set hc hr'))
theorem tke (i : Nat) (d : Option Tmp) (v : Value) {oi : Oper} {n : Nat} {l : Array Bool} {a : Act} {w : World} (hi : ops[i]? = some oi) (hd : oi.dst = d)
    (h : Walk P md ops Q S X n (l.setIfInBounds i true) (a.put d v) w)
    (hs : Region.noSelect ops = true := by kernel_rfl) (hf : Region.free md ops l i = true := by kernel_rfl) (hr : (Region.ready md ops l).contains i = true := by kernel_rfl) (hu : (X.all fun x => (ups md ops 9 x).contains i) = true := by kernel_rfl) (his : i ∉ X := by decide)
    (hQ : ∀ c a w, Q (.panic c) (a.put d v) w → Q (.panic c) a w := by exact fun _ _ _ h => h) (hw : Region.wanted oi (yielded ops a.tmps) = true := by rfl) (hy : ∀ w, S w → (execOp a.eval oi).run P w = .ok (.value v) w := by intro w hSw; (try dsimp only at hSw); go_simp) (hS : S w := by assumption) :
    Walk P md ops Q S X (n + 1) l a w := fun hc => by
  subst hd
  have hr' : i ∈ Region.ready md ops l := by simpa using hr
  exact first hi (Region.noSelect_spec hs) hQ (fun x hx => ⟨9, by have := List.all_eq_true.1 hu x hx; simpa using this⟩) his n l a w hc (Region.free_spec hi hf) hr' (Or.inl ⟨hw, hy⟩) hS (h (shutd_set hc hr'))
/-- The next one that changes memory: the only one that may come up. -/
theorem one (i : Nat) {o : Oper} {n : Nat} {l : Array Bool} {a : Act} {w : World} (hr : Region.ready md ops l = [i]) (ho : ops[i]? = some o) (his : i ∉ X)
    (h : ∀ K' : Act → World → Prop, Shut (∀ a w, S w → (S w → Walk P md ops Q S X n (l.setIfInBounds i true) a w) → K' a w) → if Region.wanted o (yielded ops a.tmps) = true then Oper.wp P o a w K' Q else K' (a.put o.dst undef) w) :
    Walk P md ops Q S X (n + 1) l a w := fun hc => by
  refine ⟨fun h0 => (by rw [hr] at h0; cases h0), fun j hj => ?_⟩
  have hjm := hj
  rw [hr, List.mem_singleton] at hj
  subst hj
  exact wpOp_step ho (fun K' hK => h K' (fun a w hS hW => hK a w ⟨fun _ => hS, hW hS (shutd_set hc hjm)⟩))
/-- Of two that may come up. -/
theorem two (i k : Nat) {o o2 : Oper} {n : Nat} {l : Array Bool} {a : Act} {w : World} (hr : Region.ready md ops l = [i, k]) (ho : ops[i]? = some o) (ho2 : ops[k]? = some o2) (his : i ∉ X) (hks : k ∉ X)
    (h : ∀ K' : Act → World → Prop, Shut (∀ a w, S w → (S w → Walk P md ops Q S X n (l.setIfInBounds i true) a w) → K' a w) → if Region.wanted o (yielded ops a.tmps) = true then Oper.wp P o a w K' Q else K' (a.put o.dst undef) w)
    (h2 : ∀ K' : Act → World → Prop, Shut (∀ a w, S w → (S w → Walk P md ops Q S X n (l.setIfInBounds k true) a w) → K' a w) → if Region.wanted o2 (yielded ops a.tmps) = true then Oper.wp P o2 a w K' Q else K' (a.put o2.dst undef) w) :
    Walk P md ops Q S X (n + 1) l a w := fun hc => by
  refine ⟨fun h0 => (by rw [hr] at h0; cases h0), fun j hj => ?_⟩
  have hjm := hj
  rw [hr] at hj
  rcases List.mem_cons.1 hj with rfl | hj
  · exact wpOp_step ho (fun K' hK => h K' (fun a w hS hW => hK a w ⟨fun _ => hS, hW hS (shutd_set hc hjm)⟩))
  · rw [List.mem_singleton] at hj
    subst hj
    exact wpOp_step ho2 (fun K' hK => h2 K' (fun a w hS hW => hK a w ⟨fun _ => hS, hW hS (shutd_set hc hjm)⟩))
/-- One of X. -/
theorem oneX (i : Nat) {o : Oper} {n : Nat} {l : Array Bool} {a : Act} {w : World} (hr : Region.ready md ops l = [i]) (ho : ops[i]? = some o) (hx : i ∈ X)
    (h : ∀ K' : Act → World → Prop, Shut (∀ a w, Walk P md ops Q S X n (l.setIfInBounds i true) a w → K' a w) → if Region.wanted o (yielded ops a.tmps) = true then Oper.wp P o a w K' Q else K' (a.put o.dst undef) w) :
    Walk P md ops Q S X (n + 1) l a w := fun hc => by
  refine ⟨fun h0 => (by rw [hr] at h0; cases h0), fun j hj => ?_⟩
  have hjm := hj
  rw [hr, List.mem_singleton] at hj
  subst hj
  exact wpOp_step ho (fun K' hK => h K' (fun a w hW => hK a w ⟨fun h => absurd hx h, hW (shutd_set hc hjm)⟩))
/-- All have come up. -/
theorem done {n : Nat} {l : Array Bool} {a : Act} {w : World} (he : Region.ready md ops l = []) (hq : Q .normal a w) : Walk P md ops Q S X n l a w := fun _ => by
  cases n with
  | zero => exact ⟨he, hq⟩
  | succ n => exact ⟨fun _ => hq, fun k hk => (by rw [he] at hk; cases hk)⟩
/-- The beginning. -/
theorem start {id : Nat} {a : Act} {w : World} (X : List Nat) (S : World → Prop) (hm : P.follows .mixedOrders = true) (hS : S w.drew)
    (h : S w.drew → Walk P .any ops Q S X ops.size (Array.replicate ops.size false) a w.drew) : (Code.region id ops true).wp P Q a w :=
  wp_region_any hm (any_of _ _ _ _ (h hS (fun k o hk hl => by
    rcases Nat.lt_or_ge k ops.size with h' | h'
    · simp [h'] at hl
    · simp [Array.getElem?_eq_none (show (Array.replicate ops.size false).size ≤ k by simpa using h')] at hl)))
end
end Go.Proofs.Ytkohhcjpjloaaaa.OuK
