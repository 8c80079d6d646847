/- A word's place in a list; a text cut at blanks: of the program. -/
import Derived.Test.YtaninhajnfgkkaaDoorPaP
import Derived.Test.YtaninhajnfgkkaaDoorShelf
import Derived.Deep.RegionHeld3
namespace Go.Proofs.YtaninhajnfgkkaaDoor.PaI
set_option maxRecDepth 8000
open Go.RowKit
open Ls Lp RuP TxP PrP PaP
open Recs (hsz below1 below2 chain)
set_option linter.unusedVariables false
set_option maxHeartbeats 1600000 in
theorem idx_any (L : List ByteArray) (x : ByteArray) (g : Nat) (w : World) (hc : ∀ j, j < L.length → w.cell? ⟨g, j, none⟩ = some (.string (L.getD j ⟨#[]⟩))) (hg : g < w.heap.size) (hl : L.length ≤ 10) :
    Calls Tryd.prog 22 #[.slice (some ⟨g, 0, none⟩) L.length L.length, .string x] w fun e w' => e = .returned (.int .i64 (idx L x.toList)) ∧ w = w' := by
  have HC := Seg.hid hc
  clear hc
  go_enter Tryd.func22, Tryd.ntmps22
  go_wp2_with fail
  go_loop [8] (fun i => ∃ (k : Nat), k ≤ L.length ∧ i = .int .i64 k ∧ Hid (idxF x.toList (L.drop k) k = idx L x.toList)) (fun i => L.length - (intOf i).toNat)
  case atStart => exact ⟨0, Nat.zero_le _, rfl, rfl⟩
  case round =>
    obtain ⟨k, hk, rfl, HR⟩ := hrel
    by_cases hlt : k < L.length
    · have d0 := HC.out k hlt
      have h0 : (0 : Int) ≤ (k : Int) := by omega
      have h1 : (k : Int) < (L.length : Int) := by omega
      have HE := HR.out
      rw [idx_step hlt] at HE
      have HE' := Seg.hid HE
      clear HE HR
      generalize L.getD k ⟨#[]⟩ = y at *
      by_cases he : y.toList = x.toList
      · have g1 : (x.toList == y.toList) = true := by simp [he]
        have Z : Hid (idx L x.toList = (k : Int)) := by show _ = _; rw [← HE'.out, if_pos he]
        clear he HE'
        go_wp2
        go_ret
        exact ⟨by rw [Z.out]; rfl, rfl⟩
      · have g1 : (x.toList == y.toList) = false := by rw [beq_eq_false_iff_ne]; exact fun e => he e.symm
        have Z : Hid (idxF x.toList (L.drop (k + 1)) (k + 1) = idx L x.toList) := by show _ = _; rw [← HE'.out, if_neg he]
        clear he HE'
        go_wp2
        go_round
        case rel => exact ⟨k + 1, by omega, by go_num, Z.out⟩
        case measure => simp [intOf]; omega
    · have HE := HR.out
      rw [idx_end (by omega)] at HE
      have HE' := Seg.hid HE
      clear HE HR
      go_wp2
      go_ret
      exact ⟨by rw [← HE'.out]; rfl, rfl⟩
theorem cutS_any (s : ByteArray) (w : World) (hs : s.size ≤ 1048576) : Calls Tryd.prog 25 #[.string s, .string ⟨#[42]⟩] w fun e w' => e = .returned (.tuple #[.string (if star s.toList = true then bsOf s.toList.dropLast else bsOf s.toList), .bool (star s.toList)]) ∧ w = w' := by
  refine (Tryd.strings_CutSuffix s ⟨#[42]⟩ w (by omega)).mono fun e w' ⟨h1, h2⟩ => ⟨?_, h2.symm⟩
  rw [h1, ← toList_data]
  have e1 : Lib.hasSuffix s.toList (⟨#[42]⟩ : ByteArray).data.toList = star s.toList := star_suffix s.toList
  have e2 : (⟨(Lib.trimSuffix s.toList (⟨#[42]⟩ : ByteArray).data.toList).toArray⟩ : ByteArray) = _ := star_trim s.toList
  rw [e1, e2]
theorem split_any (s : ByteArray) (m : Int) (w : World) (hs : s.size ≤ 1048576) (hm : w.cell? ⟨0, 0, none⟩ = some (.int .i64 m)) : Calls Tryd.prog 21 #[.string s, .string ⟨#[32]⟩] w fun e w' => e = .returned (.slice (some ⟨w.heap.size, 0, none⟩) (cutF 32 s.toList []).length (cutF 32 s.toList []).length) ∧ w' = w.alloc (.cells ((cutF 32 s.toList []).map fun u => Value.string (bsOf u)).toArray 9) := by
  refine (Tryd.strings_Split s ⟨#[32]⟩ m w (by omega) hm (by decide)).mono fun e w' ⟨h1, h2⟩ => ?_
  obtain ⟨e1, e2⟩ := splitB_cut s
  rw [e2] at h1
  rw [e1, List.map_map] at h2
  exact ⟨h1, h2⟩
end Go.Proofs.YtaninhajnfgkkaaDoor.PaI
