/- The document's head of layer 15. -/
import Derived.Test.YtlhkplhfofkbbaaREnc15
namespace Go.Proofs.Ytlhkplhfofkbbaa
open Go.RowKit

/-- The bytes of the head, of the contents; the error. -/
def headB (s : List Int) : Int × Int × Int :=
  if s.length < 1 then (0, 0, 150)
  else if s.getD 0 0 % 32 = 31 then (0, 0, 151)
  else if s.length < 2 then (0, 0, 150)
  else if s.getD 1 0 < 128 then (2, s.getD 1 0, 0)
  else if s.getD 1 0 = 128 ∨ 130 < s.getD 1 0 then (0, 0, 152)
  else if (s.length : Int) < s.getD 1 0 - 126 then (0, 0, 150)
  else if s.getD 1 0 = 129 then (if s.getD 2 0 < 128 then (0, 0, 152) else (3, s.getD 2 0, 0))
  else if s.getD 2 0 = 0 then (0, 0, 152) else (4, 256 * s.getD 2 0 + s.getD 3 0, 0)
theorem ret_3 {a b c a' b' c' : Int} (h : (a, b, c) = (a', b', c')) : Ending.returned (.tuple #[.int .i64 a, .int .i64 b, .int .i64 c]) = .returned (.tuple #[.int .i64 a', .int .i64 b', .int .i64 c']) := by cases h; rfl
theorem getD_drop (l : List Int) (i j : Nat) : (l.drop i).getD j 0 = l.getD (i + j) 0 := by simp [List.getD]
set_option maxHeartbeats 6400000 in
theorem rhead_any (s : ByteArray) (i : Nat) (w : World) (hi : i ≤ s.size) (hs : s.size ≤ 9223372036854775000) :
    Calls Try.prog 41 #[.string s, .int .i64 i] w fun r w' => r = .returned (.tuple #[.int .i64 (headB ((nums s).drop i)).1, .int .i64 (headB ((nums s).drop i)).2.1, .int .i64 (headB ((nums s).drop i)).2.2]) ∧ ∃ q, w' = w.drewN q := by
  have hlen : ((nums s).drop i).length = s.size - i := by rw [List.length_drop, nums_length]
  have HB : Hid (headB ((nums s).drop i) = if s.size - i < 1 then (0, 0, 150) else if (nums s).getD i 0 % 32 = 31 then (0, 0, 151) else if s.size - i < 2 then (0, 0, 150) else if (nums s).getD (i + 1) 0 < 128 then (2, (nums s).getD (i + 1) 0, 0) else if (nums s).getD (i + 1) 0 = 128 ∨ 130 < (nums s).getD (i + 1) 0 then (0, 0, 152) else if ((s.size - i : Nat) : Int) < (nums s).getD (i + 1) 0 - 126 then (0, 0, 150) else if (nums s).getD (i + 1) 0 = 129 then (if (nums s).getD (i + 2) 0 < 128 then (0, 0, 152) else (3, (nums s).getD (i + 2) 0, 0)) else if (nums s).getD (i + 2) 0 = 0 then (0, 0, 152) else (4, 256 * (nums s).getD (i + 2) 0 + (nums s).getD (i + 3) 0, 0)) := by
    show _ = _
    unfold headB
    rw [hlen, getD_drop, getD_drop, getD_drop, getD_drop, Nat.add_zero]
  have i0 : (0 : Int) ≤ (i : Int) := by omega
  have wn : IntKind.i64.wrap ((s.size : Int) - (i : Int)) = (s.size : Int) - (i : Int) := wrap_in (by omega) (by omega)
  have w1 : IntKind.i64.wrap ((i : Int) + 1) = (i : Int) + 1 := wrap_in (by omega) (by omega)
  have w2 : IntKind.i64.wrap ((i : Int) + 2) = (i : Int) + 2 := wrap_in (by omega) (by omega)
  have w3 : IntKind.i64.wrap ((i : Int) + 3) = (i : Int) + 3 := wrap_in (by omega) (by omega)
  clear hlen
  by_cases n1 : s.size - i < 1
  · have z1 : (s.size : Int) - (i : Int) < 1 := by omega
    rw [unhide HB, if_pos n1]
    clear HB
    go_enter Try.func41, Try.ntmps41
    go_wp2
    go_ret3
    exact ⟨rfl, 0, rfl⟩
  have z1 : ¬ (s.size : Int) - (i : Int) < 1 := by omega
  have i1 : i < s.size := by omega
  have j1 : (i : Int) < (s.size : Int) := by omega
  have hat0 := nums_at s i i1
  have hb0 := (s[i]).toNat_lt
  obtain ⟨t, ht⟩ : ∃ t : Int, (s[i].toNat : Int) = t := ⟨_, rfl⟩
  rw [ht] at hat0
  have t0 : 0 ≤ t := by omega
  have t1 : t < 256 := by omega
  have tm : t.tmod 32 = t % 32 := Int.tmod_eq_emod_of_nonneg t0
  rw [hat0, if_neg n1] at HB
  clear hat0 hb0
  by_cases n2 : t % 32 = 31
  · have z2 : (t % 32 == 31) = true := by simpa using n2
    rw [unhide HB, if_pos n2]
    clear HB
    go_enter Try.func41, Try.ntmps41
    go_wp2
    go_ret3
    exact ⟨rfl, 0, rfl⟩
  have z2 : (t % 32 == 31) = false := by simpa using n2
  rw [if_neg n2] at HB
  by_cases n3 : s.size - i < 2
  · have z3 : (s.size : Int) - (i : Int) < 2 := by omega
    rw [unhide HB, if_pos n3]
    clear HB
    go_enter Try.func41, Try.ntmps41
    go_wp2
    go_ret3
    exact ⟨rfl, 0, rfl⟩
  have z3 : ¬ (s.size : Int) - (i : Int) < 2 := by omega
  have i2 : i + 1 < s.size := by omega
  have j2 : (i : Int) + 1 < (s.size : Int) := by omega
  have hat1 := nums_at s (i + 1) i2
  have hb1 := (s[i + 1]).toNat_lt
  obtain ⟨c, hc⟩ : ∃ c : Int, (s[i + 1].toNat : Int) = c := ⟨_, rfl⟩
  rw [hc] at hat1
  have c0 : 0 ≤ c := by omega
  have c1 : c < 256 := by omega
  rw [hat1, if_neg n3] at HB
  clear hat1 hb1
  by_cases n4 : c < 128
  · rw [unhide HB, if_pos n4]
    clear HB
    go_enter Try.func41, Try.ntmps41
    go_wp2
    go_ret3
    exact ⟨rfl, 0, rfl⟩
  rw [if_neg n4] at HB
  by_cases n5 : c = 128
  · rw [unhide HB, if_pos (.inl n5)]
    clear HB
    have z5 : (c == 128) = true := by simpa using n5
    go_enter Try.func41, Try.ntmps41
    go_wp2
    go_ret3
    exact ⟨rfl, 0, rfl⟩
  have z5 : (c == 128) = false := by simpa using n5
  by_cases n6 : 130 < c
  · rw [unhide HB, if_pos (.inr n6)]
    clear HB
    go_enter Try.func41, Try.ntmps41
    go_wp2
    go_ret3
    exact ⟨rfl, 0, rfl⟩
  rw [if_neg (fun h => h.elim n5 n6)] at HB
  have wc : IntKind.i64.wrap (c - 126) = c - 126 := wrap_in (by omega) (by omega)
  by_cases n7 : ((s.size - i : Nat) : Int) < c - 126
  · have z7 : (s.size : Int) - (i : Int) < c - 126 := by omega
    rw [unhide HB, if_pos n7]
    clear HB
    go_enter Try.func41, Try.ntmps41
    go_wp2
    go_ret3
    exact ⟨rfl, 0, rfl⟩
  have z7 : ¬ (s.size : Int) - (i : Int) < c - 126 := by omega
  rw [if_neg n7] at HB
  have i3 : i + 2 < s.size := by omega
  have j3 : (i : Int) + 2 < (s.size : Int) := by omega
  have hat2 := nums_at s (i + 2) i3
  have hb2 := (s[i + 2]).toNat_lt
  obtain ⟨d, hd⟩ : ∃ d : Int, (s[i + 2].toNat : Int) = d := ⟨_, rfl⟩
  rw [hd] at hat2
  have d0 : 0 ≤ d := by omega
  have d1 : d < 256 := by omega
  rw [hat2] at HB
  clear hat2 hb2
  by_cases n8 : c = 129
  · subst n8
    rw [if_pos rfl] at HB
    by_cases n9 : d < 128
    · rw [unhide HB, if_pos n9]
      clear HB
      go_enter Try.func41, Try.ntmps41
      go_wp2
      go_ret3
      exact ⟨rfl, 0, rfl⟩
    · rw [unhide HB, if_neg n9]
      clear HB
      go_enter Try.func41, Try.ntmps41
      go_wp2
      go_quiet (fail)
      go_wp2
      go_ret3
      exact ⟨rfl, _, rfl⟩
  · have e130 : c = 130 := by omega
    subst e130
    rw [if_neg (by decide)] at HB
    have i4 : i + 3 < s.size := by omega
    have j4 : (i : Int) + 3 < (s.size : Int) := by omega
    have hat3 := nums_at s (i + 3) i4
    have hb3 := (s[i + 3]).toNat_lt
    obtain ⟨e, he⟩ : ∃ e : Int, (s[i + 3].toNat : Int) = e := ⟨_, rfl⟩
    rw [he] at hat3
    have e0 : 0 ≤ e := by omega
    have e1 : e < 256 := by omega
    rw [hat3] at HB
    clear hat3 hb3
    by_cases n9 : d = 0
    · rw [unhide HB, if_pos n9]
      have z9 : (d == 0) = true := by simpa using n9
      clear HB
      go_enter Try.func41, Try.ntmps41
      go_wp2
      go_ret3
      exact ⟨rfl, 0, rfl⟩
    · rw [unhide HB, if_neg n9]
      have z9 : (d == 0) = false := by simpa using n9
      have wd : IntKind.i64.wrap (256 * d) = 256 * d := wrap_in (by omega) (by omega)
      have we : IntKind.i64.wrap (256 * d + e) = 256 * d + e := wrap_in (by omega) (by omega)
      clear HB
      go_enter Try.func41, Try.ntmps41
      go_wp2
      have j5 : (i : Int) + 3 < (s.size : Int) := by omega
      have i5 : i + 3 < s.size := by omega
      have j6 : (0 : Int) ≤ (i : Int) + 3 := by omega
      go_quiet (fail)
      go_wp2
      go_ret3
      exact ⟨rfl, _, rfl⟩
end Go.Proofs.Ytlhkplhfofkbbaa
