/- The landed appendByte of layer 18. -/
import Derived.Test.YtnhojjheoafhaaaDoorDc18
namespace Go.Proofs.YtnhojjheoafhaaaDoor
set_option maxRecDepth 100000
open Go.RowKit

theorem u8_and15 (c : Int) (h0 : 0 ≤ c) (h1 : c < 256) : bits .and .u8 c 15 = c % 16 := by
  have h : ∀ c : Fin 256, bits .and .u8 (c.val : Int) 15 = (c.val : Int) % 16 := by decide +kernel
  have := h ⟨c.toNat, by omega⟩
  simpa [Int.toNat_of_nonneg h0] using this
theorem hexT_at (a : Nat) (h : a < 16) : (((⟨#[48, 49, 50, 51, 52, 53, 54, 55, 56, 57, 97, 98, 99, 100, 101, 102]⟩ : ByteArray)[a]'(by exact h)).toNat : Int) = hexD (a : Int) := by
  have h' : ∀ a : Fin 16, (((⟨#[48, 49, 50, 51, 52, 53, 54, 55, 56, 57, 97, 98, 99, 100, 101, 102]⟩ : ByteArray)[a.val]'(by exact a.isLt)).toNat : Int) = hexD (a.val : Int) := by decide +kernel
  exact h' ⟨a, h⟩
theorem grown_drew {w w2 : World} {row : Option Nat} {o : Obj} (h : (w.alloc o).drew.grownBy w2 row) : w.grownBy w2 row := ((Gr.one w o).drew.grown row).trans h
theorem nx_of {v : Value} {w : World} {g n c H : Nat} (hH : w.heap.size ≤ H) (hat : v.ownBlock = some g ∨ g = H) : Nx v (.slice (some ⟨g, 0, none⟩) n c) w := at_of hH hat
set_option maxHeartbeats 3200000 in
theorem appb_hex (B : Nat) (X : List Int) (N : Nat) (hN : N = X.length) (v : Value) (s : ByteArray) (k : Nat) (hk : k < s.size) (c : Int) (hc : (s[k].toNat : Int) = c) (w : World) (hO : Ob B v X w) (hB : B ≤ w.heap.size) (hl : N ≤ 200000)
    (h : c < 32 ∨ c = 127) :
    Calls Tryd.prog 33 #[v, .string s, .int .i64 k] w fun e w' => ∃ v2, e = .returned v2 ∧ Ob B v2 (X ++ [92, hexD (c / 16), hexD (c % 16)]) w' ∧ w.grownBy w' v.ownBlock ∧ Nx v v2 w := by
  obtain ⟨i0, hi, hz0, hz1, hz2⟩ := info_parts u8_info
  have hb0 := (s[k]).toNat_lt
  have c0 : 0 ≤ c := by omega
  have c1 : c < 256 := by omega
  have HO := hide (hO.own hN)
  have HN := hide hN
  have zk0 : (0 : Int) ≤ (k : Int) := by omega
  have zkl : (k : Int) < (s.size : Int) := by omega
  have hm1 : N + 3 ≤ maxLen := by unfold maxLen; omega
  have hm2 : (N + 3) * 1 ≤ 140737488355328 := by omega
  obtain ⟨a, ha⟩ : ∃ a : Nat, c / 16 = (a : Int) := ⟨(c / 16).toNat, by omega⟩
  obtain ⟨b, hb⟩ : ∃ b : Nat, c % 16 = (b : Int) := ⟨(c % 16).toNat, by omega⟩
  have hand := u8_and15 c c0 c1
  rw [hb] at hand
  have ha1 : a < 16 := by omega
  have hb1 : b < 16 := by omega
  have xa := hexT_at a ha1
  have xb := hexT_at b hb1
  have za0 : (0 : Int) ≤ (a : Int) := by omega
  have zal : (a : Int) < 16 := by omega
  have zb0 : (0 : Int) ≤ (b : Int) := by omega
  have zbl : (b : Int) < 16 := by omega
  rw [ha, hb]
  generalize hexD (a : Int) = z1 at *
  generalize hexD (b : Int) = z2 at *
  clear hO hN hb0 c0 c1 hb
  have ht : (c < 32 ∨ (¬ c < 32 ∧ (c == 127) = true)) := by
    rcases h with h | h
    · exact .inl h
    · subst h; exact .inr ⟨by omega, rfl⟩
  have hH1 := hide (heap_new w (.cells #[.int .u8 92, .int .u8 z1, .int .u8 z2] 5))
  clear h
  rcases ht with ht | ⟨ht, ht2⟩
  · go_enter Tryd.func33, Tryd.ntmps33
    go_wp2
    go_region_held3 (fun _ => True) (trivial)
      (first
        | (refine step_append_lies _ (by rfl) _ _ 55 (by rfl) B 5 i0 _ 1 1 Tryd.underlying55 hi hz0 hz1 hz2 rfl (by omega) _ N _ (by rfl) (((unhide HO).alloc _).drew) ⟨w.heap.size, 0, none⟩ 3 3 [.int .u8 92, .int .u8 z1, .int .u8 z2] (by rfl) (by rfl) (World.news_of_block (cs := #[.int .u8 92, .int .u8 z1, .int .u8 z2]) (t := 5) (fr := (0, 0)) (unhide hH1)) (by simp [Value.oneCell']) (by omega) hm1 hm2 (by simp; omega) (w.heap.size + 1) (by simp) ?_; intro g1 cap1 w1 hown1 hgrow hat hlt1))
    all_goals
      go_wp2
      go_ret
      exact ⟨_, rfl, Ob.push (unhide HN) (Z := [92, z1, z2]) rfl hown1, grown_drew hgrow, nx_of (by omega) hat⟩
  · go_enter Tryd.func33, Tryd.ntmps33
    go_wp2
    go_region_held3 (fun _ => True) (trivial)
      (first
        | (refine step_append_lies _ (by rfl) _ _ 55 (by rfl) B 5 i0 _ 1 1 Tryd.underlying55 hi hz0 hz1 hz2 rfl (by omega) _ N _ (by rfl) (((unhide HO).alloc _).drew) ⟨w.heap.size, 0, none⟩ 3 3 [.int .u8 92, .int .u8 z1, .int .u8 z2] (by rfl) (by rfl) (World.news_of_block (cs := #[.int .u8 92, .int .u8 z1, .int .u8 z2]) (t := 5) (fr := (0, 0)) (unhide hH1)) (by simp [Value.oneCell']) (by omega) hm1 hm2 (by simp; omega) (w.heap.size + 1) (by simp) ?_; intro g1 cap1 w1 hown1 hgrow hat hlt1))
    all_goals
      go_wp2
      go_ret
      exact ⟨_, rfl, Ob.push (unhide HN) (Z := [92, z1, z2]) rfl hown1, grown_drew hgrow, nx_of (by omega) hat⟩
set_option maxHeartbeats 3200000 in
theorem appb_any (B : Nat) (X : List Int) (N : Nat) (hN : N = X.length) (v : Value) (s : ByteArray) (k : Nat) (hk : k < s.size) (c : Int) (hc : (s[k].toNat : Int) = c) (w : World) (hO : Ob B v X w) (hB : B ≤ w.heap.size) (hl : N ≤ 200000) (hs : s.size ≤ 9223372036854775807) :
    Calls Tryd.prog 33 #[v, .string s, .int .i64 k] w fun e w' => ∃ v2, e = .returned v2 ∧ Ob B v2 (X ++ escB (decide (k = 0)) (decide (k + 1 = s.size)) c) w' ∧ w.grownBy w' v.ownBlock ∧ Nx v v2 w := by
  by_cases h : c < 32 ∨ c = 127
  · have e : escB (decide (k = 0)) (decide (k + 1 = s.size)) c = [92, hexD (c / 16), hexD (c % 16)] := by unfold escB; rw [if_pos h]
    rw [e]
    exact appb_hex B X N hN v s k hk c hc w hO hB hl h
  rw [esc_ns _ _ c h]
  have CN := hide (needs_any s k hk c hc hs)
  obtain ⟨i0, hi, hz0, hz1, hz2⟩ := info_parts u8_info
  have HO := hide (hO.own hN)
  have HN := hide hN
  have zk0 : (0 : Int) ≤ (k : Int) := by omega
  have zkl : (k : Int) < (s.size : Int) := by omega
  have h1 : ¬ c < 32 := fun e => h (.inl e)
  have h2 : (c == 127) = false := by rw [beq_eq_false_iff_ne]; exact fun e => h (.inr e)
  have hm1 : N + 1 ≤ maxLen := by unfold maxLen; omega
  have hm2 : (N + 1) * 1 ≤ 140737488355328 := by omega
  have hm3 : N + 2 ≤ maxLen := by unfold maxLen; omega
  have hm4 : (N + 2) * 1 ≤ 140737488355328 := by omega
  clear hO hN h
  generalize nsB (decide (k = 0)) (decide (k + 1 = s.size)) c = f at *
  cases f
  · go_enter Tryd.func33, Tryd.ntmps33
    go_wp2_with (first
      | (at_builtin; refine wpList_append_lies _ rfl _ _ 55 rfl B 5 i0 _ 1 1 Tryd.underlying55 hi hz0 hz1 hz2 rfl (by omega) _ N _ rfl (World.ownsRow.alloc (unhide HO) _) ⟨w.heap.size, 0, none⟩ 1 1 [.int .u8 c] rfl rfl (World.news_of_block (cs := #[.int .u8 c]) (t := 5) (fr := (0, 0)) (heap_new w _)) (by simp [Value.oneCell']) (by omega) hm1 hm2 (by simp; omega) (w.heap.size + 1) (by simp) ?_; intro g9 cap9 w9 hown9 hgrow9 hat9 hlt9)
      | (go_at_call 38; refine (unhide CN _).mono ?_; rintro e w3 ⟨rfl, rfl⟩))
    go_ret
    exact ⟨_, rfl, Ob.push (unhide HN) (Z := [c]) rfl hown9, grown_new hgrow9, nx_of (by omega) hat9⟩
  · go_enter Tryd.func33, Tryd.ntmps33
    go_wp2_with (first
      | (at_builtin; refine wpList_append_lies _ rfl _ _ 55 rfl B 5 i0 _ 1 1 Tryd.underlying55 hi hz0 hz1 hz2 rfl (by omega) _ N _ rfl (World.ownsRow.alloc (unhide HO) _) ⟨w.heap.size, 0, none⟩ 2 2 [.int .u8 92, .int .u8 c] rfl rfl (World.news_of_block (cs := #[.int .u8 92, .int .u8 c]) (t := 5) (fr := (0, 0)) (heap_new w _)) (by simp [Value.oneCell']) (by omega) hm3 hm4 (by simp; omega) (w.heap.size + 1) (by simp) ?_; intro g9 cap9 w9 hown9 hgrow9 hat9 hlt9)
      | (go_at_call 38; refine (unhide CN _).mono ?_; rintro e w3 ⟨rfl, rfl⟩))
    go_ret
    exact ⟨_, rfl, Ob.push (unhide HN) (Z := [92, c]) rfl hown9, grown_new hgrow9, nx_of (by omega) hat9⟩
end Go.Proofs.YtnhojjheoafhaaaDoor
