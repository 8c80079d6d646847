/- Lists of Get: what the law's helpers answer; Query: how it lies in memory; what the law's measure and copier answer. -/
import Derived.Test.YtkohhcjpjloaaaaJW16
import Derived.Test.YtkohhcjpjloaaaaJW11
namespace Go.Proofs.Ytkohhcjpjloaaaa.Ls
set_option maxRecDepth 8000
open Go.RowKit
open Recs
set_option linter.unusedVariables false
end Go.Proofs.Ytkohhcjpjloaaaa.Ls
namespace Go.Proofs.Ytkohhcjpjloaaaa.Ls
set_option maxRecDepth 8000
open Go.RowKit
open Recs
set_option linter.unusedVariables false
structure Qry where
  fr : ByteArray
  jn : ByteArray
  wn : Int
  on : ByteArray
  lk : ByteArray
  wh : List Stp
  gps : List ByteArray
  win : Int
  size : Int
  every : Int
  gets : List Gqt
  deriving Inhabited
def EQry : Elt Qry := fun w S f u => f 0 = .string u.fr ∧ f 1 = .string u.jn ∧ f 2 = .int .i64 u.wn ∧ f 3 = .string u.on ∧ f 4 = .string u.lk ∧ LAt 3 EStp w S (f 5) u.wh ∧ StrsAt w S (f 6) u.gps ∧ f 7 = .int .i64 u.win ∧ f 8 = .int .i64 u.size ∧ f 9 = .int .i64 u.every ∧ LAt 3 EGqt w S (f 10) u.gets
theorem keepsQry : Keeps 11 EQry := fun w w' S f f' t h hk hf => by
  obtain ⟨h0, h1, h2, h3, h4, h5, h6, h7, h8, h9, h10⟩ := h
  exact ⟨by rw [hf 0 (by omega)]; exact h0, by rw [hf 1 (by omega)]; exact h1, by rw [hf 2 (by omega)]; exact h2, by rw [hf 3 (by omega)]; exact h3, by rw [hf 4 (by omega)]; exact h4, by rw [hf 5 (by omega)]; exact h5.keep keepsStp hk, by rw [hf 6 (by omega)]; exact h6.keep keepsStr hk, by rw [hf 7 (by omega)]; exact h7, by rw [hf 8 (by omega)]; exact h8, by rw [hf 9 (by omega)]; exact h9, by rw [hf 10 (by omega)]; exact h10.keep keepsGqt hk⟩
theorem growsQry : Grows EQry := fun w S S' f t h hs => by
  obtain ⟨h0, h1, h2, h3, h4, h5, h6, h7, h8, h9, h10⟩ := h
  exact ⟨h0, h1, h2, h3, h4, h5.mono growsStp hs, h6.mono growsStr hs, h7, h8, h9, h10.mono growsGqt hs⟩
def arrQry (f : Nat → Value) : Array Value := #[f 0, f 1, f 2, f 3, f 4, f 5, f 6, f 7, f 8, f 9, f 10]
theorem oneQry {w : World} {S : Nat → Prop} {f : Nat → Value} {u : Qry} (h : EQry w S f u) : (arrQry f).all (·.oneCell') = true := by
  obtain ⟨h0, h1, h2, h3, h4, h5, h6, h7, h8, h9, h10⟩ := h
  have o0 : (f 0).oneCell' = true := by rw [h0]; rfl
  have o1 : (f 1).oneCell' = true := by rw [h1]; rfl
  have o2 : (f 2).oneCell' = true := by rw [h2]; rfl
  have o3 : (f 3).oneCell' = true := by rw [h3]; rfl
  have o4 : (f 4).oneCell' = true := by rw [h4]; rfl
  have o5 : (f 5).oneCell' = true := h5.one
  have o6 : (f 6).oneCell' = true := h6.one
  have o7 : (f 7).oneCell' = true := by rw [h7]; rfl
  have o8 : (f 8).oneCell' = true := by rw [h8]; rfl
  have o9 : (f 9).oneCell' = true := by rw [h9]; rfl
  have o10 : (f 10).oneCell' = true := h10.one
  simp [arrQry, o0, o1, o2, o3, o4, o5, o6, o7, o8, o9, o10]
def QryAt (w : World) (S : Nat → Prop) (v : Value) (u : Qry) : Prop := ∃ f, v = .agg (arrQry f) ∧ EQry w S f u
abbrev QrysAt := LAt 11 EQry
theorem QryAt.keep {w w' : World} {S : Nat → Prop} {v : Value} {u : Qry} (h : QryAt w S v u) (hk : ∀ g, S g → w'.heap[g]? = w.heap[g]?) : QryAt w' S v u := by
  obtain ⟨f, h1, h2⟩ := h
  exact ⟨f, h1, keepsQry _ _ _ _ _ _ h2 hk (fun _ _ => rfl)⟩
theorem QryAt.mono {w : World} {S S' : Nat → Prop} {v : Value} {u : Qry} (h : QryAt w S v u) (hs : ∀ g, S g → S' g) : QryAt w S' v u := by
  obtain ⟨f, h1, h2⟩ := h
  exact ⟨f, h1, growsQry _ _ _ _ _ h2 hs⟩
theorem QryAt.below {w w' : World} {B : Nat} {S : Nat → Prop} {v : Value} {u : Qry} (h : QryAt w S v u) (hb : Below B w w') (hs : ∀ g, S g → g < B) : QryAt w' S v u := h.keep fun g hg => hb.block g (hs g hg)
def szQry (u : Qry) : Nat := u.fr.size + u.jn.size + u.on.size + u.lk.size + szL szStp (u.wh) + szL ByteArray.size (u.gps) + szL szGqt (u.gets)
def FineQry (u : Qry) : Prop := u.fr.size ≤ maxLen ∧ u.jn.size ≤ maxLen ∧ I64 u.wn ∧ u.on.size ≤ maxLen ∧ u.lk.size ≤ maxLen ∧ FineL FineStp u.wh ∧ FineL FineStr u.gps ∧ I64 u.win ∧ I64 u.size ∧ I64 u.every ∧ FineL FineGqt u.gets
theorem infoQry : (Try.prog.info? 28).map (·.size) = some 11 := by kernel_rfl
theorem infoZQry : (Try.prog.info? 28).map (fun i => (i.zero, i.size, i.bytes)) = some (some (.agg #[.string ByteArray.empty, .string ByteArray.empty, .int .i64 0, .string ByteArray.empty, .string ByteArray.empty, .slice none 0 0, .slice none 0 0, .int .i64 0, .int .i64 0, .int .i64 0, .slice none 0 0]), 11, 168) := by kernel_rfl
end Go.Proofs.Ytkohhcjpjloaaaa.Ls
