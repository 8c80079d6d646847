/- What the two Checks answer: the plain check of the bytes. -/
import Derived.Test.YtlagllomdinklakRows
import Derived.Test.YtlagllomdinklakSeg
import Derived.Test.YtlagllomdinklakCrc
import Derived.Outline
namespace Go.Proofs.Ytlagllomdinklak.Chk
open Go.RowKit
set_option linter.unusedVariables false

/-- How far the check is: j bytes are taken. -/
structure Upto (l : List Int) (j c : Nat) : Prop where
  lt : c < 4294967296
  eq : c = (l.take j).foldl Crc.upd 4294967295
theorem Upto.start (l : List Int) : Upto l 0 4294967295 := ⟨by decide, by simp⟩
theorem Upto.next {l : List Int} {j c : Nat} (h : Upto l j c) (hj : j < l.length) (x : Nat) (hx : l.getD j 0 = (x : Int)) (hx2 : x < 256) : Upto l (j + 1) (Crc.steps 8 (c ^^^ x)) := by
  have hg : l[j] = (x : Int) := by simpa [hj] using hx
  refine ⟨Crc.steps_lt (Crc.xor_lt h.lt (by omega)) 8, ?_⟩
  rw [List.take_succ_eq_append_getElem hj, List.foldl_append, ← h.eq, hg]
  simp [Crc.upd]
theorem Upto.done {l : List Int} {j c : Nat} (h : Upto l j c) (hj : l.length ≤ j) : c = Crc.crc l := by
  rw [h.eq, List.take_of_length_le hj]; rfl

theorem odd_step {z : Nat} (hz : z < 4294967296) (h : (((z : Int) % 2 == 1) = true)) : bits .xor .u32 ((z : Int) / 2) 3988292384 = ((Crc.step z : Nat) : Int) := by
  have := eq_of_beq h
  rw [Crc.step_odd (by omega), ← Crc.u32_xor _ _ (by omega) Crc.poly_lt, Int.natCast_ediv]
  rfl
theorem even_step {z : Nat} (h : (((z : Int) % 2 == 1) = false)) : (z : Int) / 2 = ((Crc.step z : Nat) : Int) := by
  have := ne_of_beq_false h
  rw [Crc.step_even (by omega)]; omega
/-- k steps of a number. -/
structure After (z0 k z : Nat) : Prop where
  lt : z < 4294967296
  eq : z = Crc.steps k z0
theorem After.start {z : Nat} (h : z < 4294967296) : After z 0 z := ⟨h, rfl⟩
theorem After.next {z0 k z : Nat} (h : After z0 k z) : After z0 (k + 1) (Crc.step z) := ⟨Crc.step_lt h.lt, by rw [h.eq]; rfl⟩

set_option maxRecDepth 4000 in
set_option maxHeartbeats 800000 in
theorem spec_core (g o n c : Nat) (l : List Int) (w : World) (hn : n ≤ 140737488355328) (hc1 : n ≤ c) (hl : l.length = n)
    (hcell : ∀ i, i < n → w.cell? ⟨g, o + i, none⟩ = some (.int .u8 (l.getD i 0))) (hby : Seg.Byt l) :
    Calls Try.prog 11 #[.slice (some ⟨g, o, none⟩) n c] w fun e w' => e = .returned (.int .i64 (Crc.check l)) ∧ w = w' := by
  have HC := Seg.hid hcell
  have HL := Seg.hid hl
  have HY := Seg.hid hby
  clear hcell hl hby
  go_enter Try.func11, Try.ntmps11
  go_wp2
  go_loop [3, 4, 5, 6] (fun c i _ _ => ∃ j m : Nat, j ≤ n ∧ i = .int .i64 j ∧ c = .int .u32 m ∧ Upto l j m) (fun _ i _ _ => n - (intOf i).toNat)
  case atStart => exact ⟨0, 4294967295, Nat.zero_le _, rfl, rfl, Upto.start l⟩
  case round =>
    obtain ⟨j, m, hj, rfl, rfl, HU⟩ := hrel
    by_cases hlt : j < n
    · obtain ⟨x, HX, hx⟩ : ∃ x : Nat, Hid (l.getD j 0 = (x : Int)) ∧ x < 256 := ⟨(l.getD j 0).toNat, by show _ = _; have := HY.out j; omega, by have := HY.out j; omega⟩
      have hc : w.cell? ⟨g, o + j, none⟩ = some (.int .u8 (x : Int)) := by rw [HC.out j hlt, HX.out]
      have hxx := Crc.u32_xor m x HU.lt (by omega)
      have HN := Seg.hid (HU.next (by rw [HL.out]; exact hlt) x HX.out hx)
      have HZ : Hid (m ^^^ x < 4294967296) := Crc.xor_lt HU.lt (by omega)
      obtain ⟨z0, hz0⟩ : ∃ z0, z0 = m ^^^ x := ⟨_, rfl⟩
      rw [← hz0] at hxx HN HZ
      clear HU hz0
      go_wp2
      go_loop [3, 5, 6] (fun c i _ => ∃ k z : Nat, k ≤ 8 ∧ i = .int .i64 k ∧ c = .int .u32 z ∧ After z0 k z) (fun _ i _ => 8 - (intOf i).toNat)
      case atStart => exact ⟨0, z0, Nat.zero_le _, rfl, rfl, After.start HZ.out⟩
      case round =>
        clear hxx
        obtain ⟨k, z, hk, rfl, rfl, HA⟩ := hrel
        by_cases hk8 : k < 8
        · have hz := HA.lt
          have HA2 := Seg.hid HA.next
          cases hodd : ((z : Int) % 2 == 1) with
          | true =>
            have hst := odd_step hz hodd
            clear HA
            go_wp2
            go_round
            case rel => exact ⟨k + 1, Crc.step z, by omega, by go_num, rfl, HA2.out⟩
            case measure => simp [intOf]; omega
          | false =>
            have hst := even_step hodd
            clear HA
            go_wp2
            go_round
            case rel => exact ⟨k + 1, Crc.step z, by omega, by go_num, rfl, HA2.out⟩
            case measure => simp [intOf]; omega
        · have hk' : k = 8 := by omega
          have HF : Hid (Upto l (j + 1) z) := by
            show Upto l (j + 1) z
            rw [HA.eq, hk']; exact HN.out
          clear HA hk' HN
          go_wp2
          go_round
          case rel => exact ⟨j + 1, z, by omega, by go_num, rfl, HF.out⟩
          case measure => simp [intOf]; omega
    · have hlen : Hid (l.length ≤ j) := (by show _ ≤ _; rw [HL.out]; omega)
      have hx : bits .xor .u32 (m : Int) 4294967295 = ((m ^^^ 4294967295 : Nat) : Int) := Crc.u32_xor m 4294967295 HU.lt (by decide)
      have hlt2 := Crc.xor_lt HU.lt (show 4294967295 < 4294967296 by decide)
      have HE : Hid (((m ^^^ 4294967295 : Nat) : Int) = Crc.check l) := (by show _ = _; rw [HU.done hlen.out]; rfl)
      obtain ⟨r, hr⟩ : ∃ r, r = m ^^^ 4294967295 := ⟨_, rfl⟩
      rw [← hr] at hx hlt2 HE
      clear HU hr
      go_wp2
      go_ret
      exact ⟨Seg.ret_int HE.out, rfl⟩
end Go.Proofs.Ytlagllomdinklak.Chk
