/- The document's one of layer 24. (By gen_on.py.) -/
import Derived.Test.YthbldkkjjjmegaaGreatDoorM04
import Derived.Test.YthbldkkjjjmegaaGreatDoorM05
import Derived.Test.YthbldkkjjjmegaaGreatDoorM03
namespace Go.Proofs.YthbldkkjjjmegaaGreatDoor
set_option maxRecDepth 100000
open Go.RowKit

/-- May a filter be, but for its kids? (Told by what is asked: the kind, how many kids, is the value too long, is the name a word, is it empty, is the rule one, is it empty, what bare and fine tell.) -/
def oneQ (k : Int) (m : Nat) (big nd ne rd re b1 b2 b3 b4 b5 fp : Bool) : Bool :=
  if k = 0 ∨ k = 1 then b1 else if k = 2 then b1 && decide (m = 1) else if m ≠ 0 ∨ big = true then false
  else if k = 3 ∨ k = 5 ∨ k = 6 ∨ k = 8 then b2 && nd else if k = 7 then b3 && nd else if k = 4 then b4 && (nd && fp)
  else if k = 9 then b5 && ((nd || ne) && ((rd || re) && (nd || rd))) else false
def dnT : ByteArray := ⟨#[100, 110]⟩
def oneF (k : Int) (n v i : ByteArray) (a : List ByteArray) (f : ByteArray) (hi hf : Bool) (r : ByteArray) (d : Bool) (m : Nat) : Bool :=
  oneQ k m (decide (400 < v.size)) (wrdB (nums n)) (decide (n = ByteArray.empty)) (wrdB (nums r) && !decide (r = dnT)) (decide (r = ByteArray.empty))
    (barF n v i a f hi hf r d true true true true) (barF n v i a f hi hf r d false false true true) (barF n v i a f hi hf r d false true true true) (barF n v i a f hi hf r d false true false true) (barF n v i a f hi hf r d false false true false) (finPc i a f hi hf)
end Go.Proofs.YthbldkkjjjmegaaGreatDoor
/- The document's one of layer 24: a case. (By gen_on.py.) -/
namespace Go.Proofs.YthbldkkjjjmegaaGreatDoor
set_option maxRecDepth 100000
open Go.RowKit

set_option maxHeartbeats 6400000 in
theorem one01_any (k : Int) (n v i : ByteArray) (a : List ByteArray) (f : ByteArray) (hi hf : Bool) (r : ByteArray) (d : Bool) (a1 a2 : Option Addr) (c1 m c2 : Nat) (w : World) (hn : a.length ≤ 1000000) (ht : TxC w a1 a) (hk : k = 0 ∨ k = 1) : Calls Tryz.prog 41 #[vFl k n v i a1 a.length c1 f hi hf r d a2 m c2] w fun x w' => x = .returned (.bool (oneF k n v i a f hi hf r d m)) ∧ Gr w w' := by
  have CW := hide (fun s W => rword_any s W)
  have CB : Hid (∀ bn bv bp br W, Gr w W → _) := fun bn bv bp br W (hW : Gr w W) => rbare_any k n v i a f hi hf r d bn bv bp br a1 a2 c1 m c2 W (ht.below hW.below)
  have CF : Hid (∀ W, Gr w W → _) := fun W (hW : Gr w W) => rfine_any i f hi hf a a1 c1 W hn (ht.below hW.below)
  have g0 := Gr.one w (.cells (cFl k n v i a1 a.length c1 f hi hf r d a2 m c2) 27)
  clear ht
  obtain ⟨nd, hnd⟩ : ∃ b, wrdB (nums n) = b := ⟨_, rfl⟩
  obtain ⟨b, hb⟩ : ∃ b, barF n v i a f hi hf r d true true true true = b := ⟨_, rfl⟩
  rcases hk with rfl | rfl
  · skip
    have HN : Hid (b = oneF 0 n v i a f hi hf r d m) := by
      show _ = _
      unfold oneF
      rw [hb]
      simp [oneQ]
    go_enter Tryz.func41, Tryz.ntmps41
    go_wp2_with (first
      | (go_at_call 57; refine (unhide CB _ _ _ _ _ g0).mono ?_; rw [hb]; rintro e w2 ⟨rfl, g2⟩; have gw := g0.trans g2; obtain ⟨m0, m1, m2, m3, m4, m5, m6, m7, m8, m9, m10⟩ := box11 g2)
      | (go_at_call 56; refine (unhide CW _ _).mono ?_; rw [hnd]; rintro e w1 ⟨rfl, rfl⟩))
    go_ret
    exact ⟨ret_bool (unhide HN), gw⟩
  · skip
    have HN : Hid (b = oneF 1 n v i a f hi hf r d m) := by
      show _ = _
      unfold oneF
      rw [hb]
      simp [oneQ]
    go_enter Tryz.func41, Tryz.ntmps41
    go_wp2_with (first
      | (go_at_call 57; refine (unhide CB _ _ _ _ _ g0).mono ?_; rw [hb]; rintro e w2 ⟨rfl, g2⟩; have gw := g0.trans g2; obtain ⟨m0, m1, m2, m3, m4, m5, m6, m7, m8, m9, m10⟩ := box11 g2)
      | (go_at_call 56; refine (unhide CW _ _).mono ?_; rw [hnd]; rintro e w1 ⟨rfl, rfl⟩))
    go_ret
    exact ⟨ret_bool (unhide HN), gw⟩
end Go.Proofs.YthbldkkjjjmegaaGreatDoor
/- The document's one of layer 24: a case. (By gen_on.py.) -/
namespace Go.Proofs.YthbldkkjjjmegaaGreatDoor
set_option maxRecDepth 100000
open Go.RowKit

set_option maxHeartbeats 6400000 in
theorem one2_any (k : Int) (n v i : ByteArray) (a : List ByteArray) (f : ByteArray) (hi hf : Bool) (r : ByteArray) (d : Bool) (a1 a2 : Option Addr) (c1 m c2 : Nat) (w : World) (hn : a.length ≤ 1000000) (ht : TxC w a1 a) (hk : k = 2) : Calls Tryz.prog 41 #[vFl k n v i a1 a.length c1 f hi hf r d a2 m c2] w fun x w' => x = .returned (.bool (oneF k n v i a f hi hf r d m)) ∧ Gr w w' := by
  have CW := hide (fun s W => rword_any s W)
  have CB : Hid (∀ bn bv bp br W, Gr w W → _) := fun bn bv bp br W (hW : Gr w W) => rbare_any k n v i a f hi hf r d bn bv bp br a1 a2 c1 m c2 W (ht.below hW.below)
  have CF : Hid (∀ W, Gr w W → _) := fun W (hW : Gr w W) => rfine_any i f hi hf a a1 c1 W hn (ht.below hW.below)
  have g0 := Gr.one w (.cells (cFl k n v i a1 a.length c1 f hi hf r d a2 m c2) 27)
  clear ht
  subst hk
  obtain ⟨nd, hnd⟩ : ∃ b, wrdB (nums n) = b := ⟨_, rfl⟩
  cases hb : barF n v i a f hi hf r d true true true true
  · skip
    have HN : Hid (false = oneF 2 n v i a f hi hf r d m) := by
      show _ = _
      unfold oneF
      rw [hb]
      simp [oneQ]
    go_enter Tryz.func41, Tryz.ntmps41
    go_wp2_with (first
      | (go_at_call 57; refine (unhide CB _ _ _ _ _ g0).mono ?_; rw [hb]; rintro e w2 ⟨rfl, g2⟩; have gw := g0.trans g2; obtain ⟨m0, m1, m2, m3, m4, m5, m6, m7, m8, m9, m10⟩ := box11 g2)
      | (go_at_call 56; refine (unhide CW _ _).mono ?_; rw [hnd]; rintro e w1 ⟨rfl, rfl⟩))
    go_ret
    exact ⟨ret_bool (unhide HN), gw⟩
  · by_cases h1 : m = 1
    · subst h1
      have HN : Hid (true = oneF 2 n v i a f hi hf r d 1) := by
        show _ = _
        unfold oneF
        rw [hb]
        simp [oneQ]
      go_enter Tryz.func41, Tryz.ntmps41
      go_wp2_with (first
        | (go_at_call 57; refine (unhide CB _ _ _ _ _ g0).mono ?_; rw [hb]; rintro e w2 ⟨rfl, g2⟩; have gw := g0.trans g2; obtain ⟨m0, m1, m2, m3, m4, m5, m6, m7, m8, m9, m10⟩ := box11 g2)
        | (go_at_call 56; refine (unhide CW _ _).mono ?_; rw [hnd]; rintro e w1 ⟨rfl, rfl⟩))
      go_ret
      exact ⟨ret_bool (unhide HN), gw⟩
    · have z : ((m : Int) == 1) = false := by rw [beq_eq_false_iff_ne]; omega
      have HN : Hid (false = oneF 2 n v i a f hi hf r d m) := by
        show _ = _
        unfold oneF
        rw [hb]
        simp [oneQ, h1]
      go_enter Tryz.func41, Tryz.ntmps41
      go_wp2_with (first
        | (go_at_call 57; refine (unhide CB _ _ _ _ _ g0).mono ?_; rw [hb]; rintro e w2 ⟨rfl, g2⟩; have gw := g0.trans g2; obtain ⟨m0, m1, m2, m3, m4, m5, m6, m7, m8, m9, m10⟩ := box11 g2)
        | (go_at_call 56; refine (unhide CW _ _).mono ?_; rw [hnd]; rintro e w1 ⟨rfl, rfl⟩))
      go_ret
      exact ⟨ret_bool (unhide HN), gw⟩
end Go.Proofs.YthbldkkjjjmegaaGreatDoor
/- The document's one of layer 24: a case. (By gen_on.py.) -/
namespace Go.Proofs.YthbldkkjjjmegaaGreatDoor
set_option maxRecDepth 100000
open Go.RowKit

set_option maxHeartbeats 6400000 in
theorem onebad_any (k : Int) (n v i : ByteArray) (a : List ByteArray) (f : ByteArray) (hi hf : Bool) (r : ByteArray) (d : Bool) (a1 a2 : Option Addr) (c1 m c2 : Nat) (w : World) (hn : a.length ≤ 1000000) (ht : TxC w a1 a) (hk0 : ¬ k = 0) (hk1 : ¬ k = 1) (hk2 : ¬ k = 2) (hbad : m ≠ 0 ∨ 400 < v.size) : Calls Tryz.prog 41 #[vFl k n v i a1 a.length c1 f hi hf r d a2 m c2] w fun x w' => x = .returned (.bool (oneF k n v i a f hi hf r d m)) ∧ Gr w w' := by
  have CW := hide (fun s W => rword_any s W)
  have CB : Hid (∀ bn bv bp br W, Gr w W → _) := fun bn bv bp br W (hW : Gr w W) => rbare_any k n v i a f hi hf r d bn bv bp br a1 a2 c1 m c2 W (ht.below hW.below)
  have CF : Hid (∀ W, Gr w W → _) := fun W (hW : Gr w W) => rfine_any i f hi hf a a1 c1 W hn (ht.below hW.below)
  have g0 := Gr.one w (.cells (cFl k n v i a1 a.length c1 f hi hf r d a2 m c2) 27)
  clear ht
  obtain ⟨nd, hnd⟩ : ∃ b, wrdB (nums n) = b := ⟨_, rfl⟩
  have q0 : (k == 0) = false := by simpa using hk0
  have q1 : (k == 1) = false := by simpa using hk1
  have q2 : (k == 2) = false := by simpa using hk2
  have HN : Hid (false = oneF k n v i a f hi hf r d m) := by
    show _ = _
    unfold oneF oneQ
    rw [if_neg (by omega), if_neg hk2, if_pos (by rcases hbad with h | h; · exact .inl h
                                                  · exact .inr (decide_eq_true h))]
  by_cases hm0 : m = 0
  · subst hm0
    have y1 : (400 : Int) < (v.size : Int) := by omega
    clear hbad
    go_enter Tryz.func41, Tryz.ntmps41
    go_wp2_with (first
      | (go_at_call 56; refine (unhide CW _ _).mono ?_; rw [hnd]; rintro e w1 ⟨rfl, rfl⟩))
    go_ret
    exact ⟨ret_bool (unhide HN), g0⟩
  · have y0 : (0 : Int) < (m : Int) := by omega
    clear hbad hm0
    go_enter Tryz.func41, Tryz.ntmps41
    go_wp2_with (first
      | (go_at_call 56; refine (unhide CW _ _).mono ?_; rw [hnd]; rintro e w1 ⟨rfl, rfl⟩))
    go_ret
    exact ⟨ret_bool (unhide HN), g0⟩
end Go.Proofs.YthbldkkjjjmegaaGreatDoor
/- The document's one of layer 24: a case. (By gen_on.py.) -/
namespace Go.Proofs.YthbldkkjjjmegaaGreatDoor
set_option maxRecDepth 100000
open Go.RowKit

set_option maxHeartbeats 6400000 in
theorem one3_any (k : Int) (n v i : ByteArray) (a : List ByteArray) (f : ByteArray) (hi hf : Bool) (r : ByteArray) (d : Bool) (a1 a2 : Option Addr) (c1 m c2 : Nat) (w : World) (hn : a.length ≤ 1000000) (ht : TxC w a1 a) (hk : k = 3 ∨ k = 5 ∨ k = 6 ∨ k = 8) (hm0 : m = 0) (hv : ¬ 400 < v.size) : Calls Tryz.prog 41 #[vFl k n v i a1 a.length c1 f hi hf r d a2 m c2] w fun x w' => x = .returned (.bool (oneF k n v i a f hi hf r d m)) ∧ Gr w w' := by
  have CW := hide (fun s W => rword_any s W)
  have CB : Hid (∀ bn bv bp br W, Gr w W → _) := fun bn bv bp br W (hW : Gr w W) => rbare_any k n v i a f hi hf r d bn bv bp br a1 a2 c1 m c2 W (ht.below hW.below)
  have CF : Hid (∀ W, Gr w W → _) := fun W (hW : Gr w W) => rfine_any i f hi hf a a1 c1 W hn (ht.below hW.below)
  have g0 := Gr.one w (.cells (cFl k n v i a1 a.length c1 f hi hf r d a2 m c2) 27)
  clear ht
  subst hm0
  have y1 : ¬ (400 : Int) < (v.size : Int) := by omega
  have y2 : decide (400 < v.size) = false := decide_eq_false (by omega)
  cases hnd : wrdB (nums n) <;> cases hb : barF n v i a f hi hf r d false false true true <;> rcases hk with rfl | rfl | rfl | rfl
  · skip
    have HN : Hid (false = oneF 3 n v i a f hi hf r d 0) := by
      show _ = _
      unfold oneF
      rw [hb, hnd, y2]
      simp [oneQ]
    go_enter Tryz.func41, Tryz.ntmps41
    go_wp2_with (first
      | (go_at_call 57; refine (unhide CB _ _ _ _ _ g0).mono ?_; rw [hb]; rintro e w2 ⟨rfl, g2⟩; have gw := g0.trans g2; obtain ⟨m0, m1, m2, m3, m4, m5, m6, m7, m8, m9, m10⟩ := box11 g2)
      | (go_at_call 56; refine (unhide CW _ _).mono ?_; rw [hnd]; rintro e w1 ⟨rfl, rfl⟩))
    go_ret
    exact ⟨ret_bool (unhide HN), gw⟩
  · skip
    have HN : Hid (false = oneF 5 n v i a f hi hf r d 0) := by
      show _ = _
      unfold oneF
      rw [hb, hnd, y2]
      simp [oneQ]
    go_enter Tryz.func41, Tryz.ntmps41
    go_wp2_with (first
      | (go_at_call 57; refine (unhide CB _ _ _ _ _ g0).mono ?_; rw [hb]; rintro e w2 ⟨rfl, g2⟩; have gw := g0.trans g2; obtain ⟨m0, m1, m2, m3, m4, m5, m6, m7, m8, m9, m10⟩ := box11 g2)
      | (go_at_call 56; refine (unhide CW _ _).mono ?_; rw [hnd]; rintro e w1 ⟨rfl, rfl⟩))
    go_ret
    exact ⟨ret_bool (unhide HN), gw⟩
  · skip
    have HN : Hid (false = oneF 6 n v i a f hi hf r d 0) := by
      show _ = _
      unfold oneF
      rw [hb, hnd, y2]
      simp [oneQ]
    go_enter Tryz.func41, Tryz.ntmps41
    go_wp2_with (first
      | (go_at_call 57; refine (unhide CB _ _ _ _ _ g0).mono ?_; rw [hb]; rintro e w2 ⟨rfl, g2⟩; have gw := g0.trans g2; obtain ⟨m0, m1, m2, m3, m4, m5, m6, m7, m8, m9, m10⟩ := box11 g2)
      | (go_at_call 56; refine (unhide CW _ _).mono ?_; rw [hnd]; rintro e w1 ⟨rfl, rfl⟩))
    go_ret
    exact ⟨ret_bool (unhide HN), gw⟩
  · skip
    have HN : Hid (false = oneF 8 n v i a f hi hf r d 0) := by
      show _ = _
      unfold oneF
      rw [hb, hnd, y2]
      simp [oneQ]
    go_enter Tryz.func41, Tryz.ntmps41
    go_wp2_with (first
      | (go_at_call 57; refine (unhide CB _ _ _ _ _ g0).mono ?_; rw [hb]; rintro e w2 ⟨rfl, g2⟩; have gw := g0.trans g2; obtain ⟨m0, m1, m2, m3, m4, m5, m6, m7, m8, m9, m10⟩ := box11 g2)
      | (go_at_call 56; refine (unhide CW _ _).mono ?_; rw [hnd]; rintro e w1 ⟨rfl, rfl⟩))
    go_ret
    exact ⟨ret_bool (unhide HN), gw⟩
  · skip
    have HN : Hid (false = oneF 3 n v i a f hi hf r d 0) := by
      show _ = _
      unfold oneF
      rw [hb, hnd, y2]
      simp [oneQ]
    go_enter Tryz.func41, Tryz.ntmps41
    go_wp2_with (first
      | (go_at_call 57; refine (unhide CB _ _ _ _ _ g0).mono ?_; rw [hb]; rintro e w2 ⟨rfl, g2⟩; have gw := g0.trans g2; obtain ⟨m0, m1, m2, m3, m4, m5, m6, m7, m8, m9, m10⟩ := box11 g2)
      | (go_at_call 56; refine (unhide CW _ _).mono ?_; rw [hnd]; rintro e w1 ⟨rfl, rfl⟩))
    go_ret
    exact ⟨ret_bool (unhide HN), gw⟩
  · skip
    have HN : Hid (false = oneF 5 n v i a f hi hf r d 0) := by
      show _ = _
      unfold oneF
      rw [hb, hnd, y2]
      simp [oneQ]
    go_enter Tryz.func41, Tryz.ntmps41
    go_wp2_with (first
      | (go_at_call 57; refine (unhide CB _ _ _ _ _ g0).mono ?_; rw [hb]; rintro e w2 ⟨rfl, g2⟩; have gw := g0.trans g2; obtain ⟨m0, m1, m2, m3, m4, m5, m6, m7, m8, m9, m10⟩ := box11 g2)
      | (go_at_call 56; refine (unhide CW _ _).mono ?_; rw [hnd]; rintro e w1 ⟨rfl, rfl⟩))
    go_ret
    exact ⟨ret_bool (unhide HN), gw⟩
  · skip
    have HN : Hid (false = oneF 6 n v i a f hi hf r d 0) := by
      show _ = _
      unfold oneF
      rw [hb, hnd, y2]
      simp [oneQ]
    go_enter Tryz.func41, Tryz.ntmps41
    go_wp2_with (first
      | (go_at_call 57; refine (unhide CB _ _ _ _ _ g0).mono ?_; rw [hb]; rintro e w2 ⟨rfl, g2⟩; have gw := g0.trans g2; obtain ⟨m0, m1, m2, m3, m4, m5, m6, m7, m8, m9, m10⟩ := box11 g2)
      | (go_at_call 56; refine (unhide CW _ _).mono ?_; rw [hnd]; rintro e w1 ⟨rfl, rfl⟩))
    go_ret
    exact ⟨ret_bool (unhide HN), gw⟩
  · skip
    have HN : Hid (false = oneF 8 n v i a f hi hf r d 0) := by
      show _ = _
      unfold oneF
      rw [hb, hnd, y2]
      simp [oneQ]
    go_enter Tryz.func41, Tryz.ntmps41
    go_wp2_with (first
      | (go_at_call 57; refine (unhide CB _ _ _ _ _ g0).mono ?_; rw [hb]; rintro e w2 ⟨rfl, g2⟩; have gw := g0.trans g2; obtain ⟨m0, m1, m2, m3, m4, m5, m6, m7, m8, m9, m10⟩ := box11 g2)
      | (go_at_call 56; refine (unhide CW _ _).mono ?_; rw [hnd]; rintro e w1 ⟨rfl, rfl⟩))
    go_ret
    exact ⟨ret_bool (unhide HN), gw⟩
  · skip
    have HN : Hid (false = oneF 3 n v i a f hi hf r d 0) := by
      show _ = _
      unfold oneF
      rw [hb, hnd, y2]
      simp [oneQ]
    go_enter Tryz.func41, Tryz.ntmps41
    go_wp2_with (first
      | (go_at_call 57; refine (unhide CB _ _ _ _ _ g0).mono ?_; rw [hb]; rintro e w2 ⟨rfl, g2⟩; have gw := g0.trans g2; obtain ⟨m0, m1, m2, m3, m4, m5, m6, m7, m8, m9, m10⟩ := box11 g2)
      | (go_at_call 56; refine (unhide CW _ _).mono ?_; rw [hnd]; rintro e w1 ⟨rfl, rfl⟩))
    go_ret
    exact ⟨ret_bool (unhide HN), gw⟩
  · skip
    have HN : Hid (false = oneF 5 n v i a f hi hf r d 0) := by
      show _ = _
      unfold oneF
      rw [hb, hnd, y2]
      simp [oneQ]
    go_enter Tryz.func41, Tryz.ntmps41
    go_wp2_with (first
      | (go_at_call 57; refine (unhide CB _ _ _ _ _ g0).mono ?_; rw [hb]; rintro e w2 ⟨rfl, g2⟩; have gw := g0.trans g2; obtain ⟨m0, m1, m2, m3, m4, m5, m6, m7, m8, m9, m10⟩ := box11 g2)
      | (go_at_call 56; refine (unhide CW _ _).mono ?_; rw [hnd]; rintro e w1 ⟨rfl, rfl⟩))
    go_ret
    exact ⟨ret_bool (unhide HN), gw⟩
  · skip
    have HN : Hid (false = oneF 6 n v i a f hi hf r d 0) := by
      show _ = _
      unfold oneF
      rw [hb, hnd, y2]
      simp [oneQ]
    go_enter Tryz.func41, Tryz.ntmps41
    go_wp2_with (first
      | (go_at_call 57; refine (unhide CB _ _ _ _ _ g0).mono ?_; rw [hb]; rintro e w2 ⟨rfl, g2⟩; have gw := g0.trans g2; obtain ⟨m0, m1, m2, m3, m4, m5, m6, m7, m8, m9, m10⟩ := box11 g2)
      | (go_at_call 56; refine (unhide CW _ _).mono ?_; rw [hnd]; rintro e w1 ⟨rfl, rfl⟩))
    go_ret
    exact ⟨ret_bool (unhide HN), gw⟩
  · skip
    have HN : Hid (false = oneF 8 n v i a f hi hf r d 0) := by
      show _ = _
      unfold oneF
      rw [hb, hnd, y2]
      simp [oneQ]
    go_enter Tryz.func41, Tryz.ntmps41
    go_wp2_with (first
      | (go_at_call 57; refine (unhide CB _ _ _ _ _ g0).mono ?_; rw [hb]; rintro e w2 ⟨rfl, g2⟩; have gw := g0.trans g2; obtain ⟨m0, m1, m2, m3, m4, m5, m6, m7, m8, m9, m10⟩ := box11 g2)
      | (go_at_call 56; refine (unhide CW _ _).mono ?_; rw [hnd]; rintro e w1 ⟨rfl, rfl⟩))
    go_ret
    exact ⟨ret_bool (unhide HN), gw⟩
  · skip
    have HN : Hid (true = oneF 3 n v i a f hi hf r d 0) := by
      show _ = _
      unfold oneF
      rw [hb, hnd, y2]
      simp [oneQ]
    go_enter Tryz.func41, Tryz.ntmps41
    go_wp2_with (first
      | (go_at_call 57; refine (unhide CB _ _ _ _ _ g0).mono ?_; rw [hb]; rintro e w2 ⟨rfl, g2⟩; have gw := g0.trans g2; obtain ⟨m0, m1, m2, m3, m4, m5, m6, m7, m8, m9, m10⟩ := box11 g2)
      | (go_at_call 56; refine (unhide CW _ _).mono ?_; rw [hnd]; rintro e w1 ⟨rfl, rfl⟩))
    go_ret
    exact ⟨ret_bool (unhide HN), gw⟩
  · skip
    have HN : Hid (true = oneF 5 n v i a f hi hf r d 0) := by
      show _ = _
      unfold oneF
      rw [hb, hnd, y2]
      simp [oneQ]
    go_enter Tryz.func41, Tryz.ntmps41
    go_wp2_with (first
      | (go_at_call 57; refine (unhide CB _ _ _ _ _ g0).mono ?_; rw [hb]; rintro e w2 ⟨rfl, g2⟩; have gw := g0.trans g2; obtain ⟨m0, m1, m2, m3, m4, m5, m6, m7, m8, m9, m10⟩ := box11 g2)
      | (go_at_call 56; refine (unhide CW _ _).mono ?_; rw [hnd]; rintro e w1 ⟨rfl, rfl⟩))
    go_ret
    exact ⟨ret_bool (unhide HN), gw⟩
  · skip
    have HN : Hid (true = oneF 6 n v i a f hi hf r d 0) := by
      show _ = _
      unfold oneF
      rw [hb, hnd, y2]
      simp [oneQ]
    go_enter Tryz.func41, Tryz.ntmps41
    go_wp2_with (first
      | (go_at_call 57; refine (unhide CB _ _ _ _ _ g0).mono ?_; rw [hb]; rintro e w2 ⟨rfl, g2⟩; have gw := g0.trans g2; obtain ⟨m0, m1, m2, m3, m4, m5, m6, m7, m8, m9, m10⟩ := box11 g2)
      | (go_at_call 56; refine (unhide CW _ _).mono ?_; rw [hnd]; rintro e w1 ⟨rfl, rfl⟩))
    go_ret
    exact ⟨ret_bool (unhide HN), gw⟩
  · skip
    have HN : Hid (true = oneF 8 n v i a f hi hf r d 0) := by
      show _ = _
      unfold oneF
      rw [hb, hnd, y2]
      simp [oneQ]
    go_enter Tryz.func41, Tryz.ntmps41
    go_wp2_with (first
      | (go_at_call 57; refine (unhide CB _ _ _ _ _ g0).mono ?_; rw [hb]; rintro e w2 ⟨rfl, g2⟩; have gw := g0.trans g2; obtain ⟨m0, m1, m2, m3, m4, m5, m6, m7, m8, m9, m10⟩ := box11 g2)
      | (go_at_call 56; refine (unhide CW _ _).mono ?_; rw [hnd]; rintro e w1 ⟨rfl, rfl⟩))
    go_ret
    exact ⟨ret_bool (unhide HN), gw⟩
end Go.Proofs.YthbldkkjjjmegaaGreatDoor
/- The document's one of layer 24: a case. (By gen_on.py.) -/
namespace Go.Proofs.YthbldkkjjjmegaaGreatDoor
set_option maxRecDepth 100000
open Go.RowKit

set_option maxHeartbeats 6400000 in
theorem one7_any (k : Int) (n v i : ByteArray) (a : List ByteArray) (f : ByteArray) (hi hf : Bool) (r : ByteArray) (d : Bool) (a1 a2 : Option Addr) (c1 m c2 : Nat) (w : World) (hn : a.length ≤ 1000000) (ht : TxC w a1 a) (hk : k = 7) (hm0 : m = 0) (hv : ¬ 400 < v.size) : Calls Tryz.prog 41 #[vFl k n v i a1 a.length c1 f hi hf r d a2 m c2] w fun x w' => x = .returned (.bool (oneF k n v i a f hi hf r d m)) ∧ Gr w w' := by
  have CW := hide (fun s W => rword_any s W)
  have CB : Hid (∀ bn bv bp br W, Gr w W → _) := fun bn bv bp br W (hW : Gr w W) => rbare_any k n v i a f hi hf r d bn bv bp br a1 a2 c1 m c2 W (ht.below hW.below)
  have CF : Hid (∀ W, Gr w W → _) := fun W (hW : Gr w W) => rfine_any i f hi hf a a1 c1 W hn (ht.below hW.below)
  have g0 := Gr.one w (.cells (cFl k n v i a1 a.length c1 f hi hf r d a2 m c2) 27)
  clear ht
  subst hm0
  have y1 : ¬ (400 : Int) < (v.size : Int) := by omega
  have y2 : decide (400 < v.size) = false := decide_eq_false (by omega)
  subst hk
  cases hnd : wrdB (nums n) <;> cases hb : barF n v i a f hi hf r d false true true true
  · skip
    have HN : Hid (false = oneF 7 n v i a f hi hf r d 0) := by
      show _ = _
      unfold oneF
      rw [hb, hnd, y2]
      simp [oneQ]
    go_enter Tryz.func41, Tryz.ntmps41
    go_wp2_with (first
      | (go_at_call 57; refine (unhide CB _ _ _ _ _ g0).mono ?_; rw [hb]; rintro e w2 ⟨rfl, g2⟩; have gw := g0.trans g2; obtain ⟨m0, m1, m2, m3, m4, m5, m6, m7, m8, m9, m10⟩ := box11 g2)
      | (go_at_call 56; refine (unhide CW _ _).mono ?_; rw [hnd]; rintro e w1 ⟨rfl, rfl⟩))
    go_ret
    exact ⟨ret_bool (unhide HN), gw⟩
  · skip
    have HN : Hid (false = oneF 7 n v i a f hi hf r d 0) := by
      show _ = _
      unfold oneF
      rw [hb, hnd, y2]
      simp [oneQ]
    go_enter Tryz.func41, Tryz.ntmps41
    go_wp2_with (first
      | (go_at_call 57; refine (unhide CB _ _ _ _ _ g0).mono ?_; rw [hb]; rintro e w2 ⟨rfl, g2⟩; have gw := g0.trans g2; obtain ⟨m0, m1, m2, m3, m4, m5, m6, m7, m8, m9, m10⟩ := box11 g2)
      | (go_at_call 56; refine (unhide CW _ _).mono ?_; rw [hnd]; rintro e w1 ⟨rfl, rfl⟩))
    go_ret
    exact ⟨ret_bool (unhide HN), gw⟩
  · skip
    have HN : Hid (false = oneF 7 n v i a f hi hf r d 0) := by
      show _ = _
      unfold oneF
      rw [hb, hnd, y2]
      simp [oneQ]
    go_enter Tryz.func41, Tryz.ntmps41
    go_wp2_with (first
      | (go_at_call 57; refine (unhide CB _ _ _ _ _ g0).mono ?_; rw [hb]; rintro e w2 ⟨rfl, g2⟩; have gw := g0.trans g2; obtain ⟨m0, m1, m2, m3, m4, m5, m6, m7, m8, m9, m10⟩ := box11 g2)
      | (go_at_call 56; refine (unhide CW _ _).mono ?_; rw [hnd]; rintro e w1 ⟨rfl, rfl⟩))
    go_ret
    exact ⟨ret_bool (unhide HN), gw⟩
  · skip
    have HN : Hid (true = oneF 7 n v i a f hi hf r d 0) := by
      show _ = _
      unfold oneF
      rw [hb, hnd, y2]
      simp [oneQ]
    go_enter Tryz.func41, Tryz.ntmps41
    go_wp2_with (first
      | (go_at_call 57; refine (unhide CB _ _ _ _ _ g0).mono ?_; rw [hb]; rintro e w2 ⟨rfl, g2⟩; have gw := g0.trans g2; obtain ⟨m0, m1, m2, m3, m4, m5, m6, m7, m8, m9, m10⟩ := box11 g2)
      | (go_at_call 56; refine (unhide CW _ _).mono ?_; rw [hnd]; rintro e w1 ⟨rfl, rfl⟩))
    go_ret
    exact ⟨ret_bool (unhide HN), gw⟩
end Go.Proofs.YthbldkkjjjmegaaGreatDoor
/- The document's one of layer 24: a case. (By gen_on.py.) -/
namespace Go.Proofs.YthbldkkjjjmegaaGreatDoor
set_option maxRecDepth 100000
open Go.RowKit

set_option maxHeartbeats 6400000 in
theorem one4_any (k : Int) (n v i : ByteArray) (a : List ByteArray) (f : ByteArray) (hi hf : Bool) (r : ByteArray) (d : Bool) (a1 a2 : Option Addr) (c1 m c2 : Nat) (w : World) (hn : a.length ≤ 1000000) (ht : TxC w a1 a) (hk : k = 4) (hm0 : m = 0) (hv : ¬ 400 < v.size) : Calls Tryz.prog 41 #[vFl k n v i a1 a.length c1 f hi hf r d a2 m c2] w fun x w' => x = .returned (.bool (oneF k n v i a f hi hf r d m)) ∧ Gr w w' := by
  have CW := hide (fun s W => rword_any s W)
  have CB : Hid (∀ bn bv bp br W, Gr w W → _) := fun bn bv bp br W (hW : Gr w W) => rbare_any k n v i a f hi hf r d bn bv bp br a1 a2 c1 m c2 W (ht.below hW.below)
  have CF : Hid (∀ W, Gr w W → _) := fun W (hW : Gr w W) => rfine_any i f hi hf a a1 c1 W hn (ht.below hW.below)
  have g0 := Gr.one w (.cells (cFl k n v i a1 a.length c1 f hi hf r d a2 m c2) 27)
  clear ht
  subst hm0
  have y1 : ¬ (400 : Int) < (v.size : Int) := by omega
  have y2 : decide (400 < v.size) = false := decide_eq_false (by omega)
  subst hk
  cases hnd : wrdB (nums n) <;> cases hb : barF n v i a f hi hf r d false true false true
  · skip
    have HN : Hid (false = oneF 4 n v i a f hi hf r d 0) := by
      show _ = _
      unfold oneF
      rw [hb, hnd, y2]
      simp [oneQ]
    go_enter Tryz.func41, Tryz.ntmps41
    go_wp2_with (first
      | (go_at_call 57; refine (unhide CB _ _ _ _ _ g0).mono ?_; rw [hb]; rintro e w2 ⟨rfl, g2⟩; have gw := g0.trans g2; obtain ⟨m0, m1, m2, m3, m4, m5, m6, m7, m8, m9, m10⟩ := box11 g2)
      | (go_at_call 56; refine (unhide CW _ _).mono ?_; rw [hnd]; rintro e w1 ⟨rfl, rfl⟩))
    go_ret
    exact ⟨ret_bool (unhide HN), gw⟩
  · skip
    have HN : Hid (false = oneF 4 n v i a f hi hf r d 0) := by
      show _ = _
      unfold oneF
      rw [hb, hnd, y2]
      simp [oneQ]
    go_enter Tryz.func41, Tryz.ntmps41
    go_wp2_with (first
      | (go_at_call 57; refine (unhide CB _ _ _ _ _ g0).mono ?_; rw [hb]; rintro e w2 ⟨rfl, g2⟩; have gw := g0.trans g2; obtain ⟨m0, m1, m2, m3, m4, m5, m6, m7, m8, m9, m10⟩ := box11 g2)
      | (go_at_call 56; refine (unhide CW _ _).mono ?_; rw [hnd]; rintro e w1 ⟨rfl, rfl⟩))
    go_ret
    exact ⟨ret_bool (unhide HN), gw⟩
  · skip
    have HN : Hid (false = oneF 4 n v i a f hi hf r d 0) := by
      show _ = _
      unfold oneF
      rw [hb, hnd, y2]
      simp [oneQ]
    go_enter Tryz.func41, Tryz.ntmps41
    go_wp2_with (first
      | (go_at_call 57; refine (unhide CB _ _ _ _ _ g0).mono ?_; rw [hb]; rintro e w2 ⟨rfl, g2⟩; have gw := g0.trans g2; obtain ⟨m0, m1, m2, m3, m4, m5, m6, m7, m8, m9, m10⟩ := box11 g2)
      | (go_at_call 56; refine (unhide CW _ _).mono ?_; rw [hnd]; rintro e w1 ⟨rfl, rfl⟩))
    go_ret
    exact ⟨ret_bool (unhide HN), gw⟩
  · skip
    have HN : Hid (finPc i a f hi hf = oneF 4 n v i a f hi hf r d 0) := by
      show _ = _
      unfold oneF
      rw [hb, hnd, y2]
      simp [oneQ]
    go_enter Tryz.func41, Tryz.ntmps41
    go_wp2_with (first
      | (go_at_call 57; refine (unhide CB _ _ _ _ _ g0).mono ?_; rw [hb]; rintro e w2 ⟨rfl, g2⟩; have gw := g0.trans g2; obtain ⟨m0, m1, m2, m3, m4, m5, m6, m7, m8, m9, m10⟩ := box11 g2)
      | (go_at_call 56; refine (unhide CW _ _).mono ?_; rw [hnd]; rintro e w1 ⟨rfl, rfl⟩)
      | (go_at_call 58; refine (unhide CF _ gw).mono ?_; rintro e w3 ⟨rfl, g3⟩))
    go_ret
    exact ⟨ret_bool (unhide HN), gw.trans g3⟩
end Go.Proofs.YthbldkkjjjmegaaGreatDoor
/- The document's one of layer 24: a case. (By gen_on.py.) -/
namespace Go.Proofs.YthbldkkjjjmegaaGreatDoor
set_option maxRecDepth 100000
open Go.RowKit

set_option maxHeartbeats 6400000 in
theorem one9_any (k : Int) (n v i : ByteArray) (a : List ByteArray) (f : ByteArray) (hi hf : Bool) (r : ByteArray) (d : Bool) (a1 a2 : Option Addr) (c1 m c2 : Nat) (w : World) (hn : a.length ≤ 1000000) (ht : TxC w a1 a) (hk : k = 9) (hm0 : m = 0) (hv : ¬ 400 < v.size) : Calls Tryz.prog 41 #[vFl k n v i a1 a.length c1 f hi hf r d a2 m c2] w fun x w' => x = .returned (.bool (oneF k n v i a f hi hf r d m)) ∧ Gr w w' := by
  have CW := hide (fun s W => rword_any s W)
  have CB : Hid (∀ bn bv bp br W, Gr w W → _) := fun bn bv bp br W (hW : Gr w W) => rbare_any k n v i a f hi hf r d bn bv bp br a1 a2 c1 m c2 W (ht.below hW.below)
  have CF : Hid (∀ W, Gr w W → _) := fun W (hW : Gr w W) => rfine_any i f hi hf a a1 c1 W hn (ht.below hW.below)
  have g0 := Gr.one w (.cells (cFl k n v i a1 a.length c1 f hi hf r d a2 m c2) 27)
  clear ht
  subst hm0
  have y1 : ¬ (400 : Int) < (v.size : Int) := by omega
  have y2 : decide (400 < v.size) = false := decide_eq_false (by omega)
  subst hk
  obtain ⟨q, hq⟩ : ∃ q, (wrdB (nums r) && !decide (r = dnT)) = q := ⟨_, rfl⟩
  have HB : Hid (∀ b nd ne rd re x, barF n v i a f hi hf r d false false true false = b → wrdB (nums n) = nd → decide (n = ByteArray.empty) = ne → (wrdB (nums r) && !decide (r = dnT)) = rd → decide (r = ByteArray.empty) = re → (b && ((nd || ne) && ((rd || re) && (nd || rd)))) = x → x = oneF 9 n v i a f hi hf r d 0) := by
    intro b nd ne rd re x h1 h2 h3 h4 h5 h6
    unfold oneF
    rw [h1, h2, h3, h4, h5, y2]
    subst h6
    simp [oneQ]
  clear hq
  cases hrd : wrdB (nums r)
  · have hq : (wrdB (nums r) && !decide (r = dnT)) = false := by rw [hrd]; rfl
    by_cases er : r = ByteArray.empty
    · subst er
      have xr : decide (ByteArray.empty = ByteArray.empty) = true := decide_eq_true rfl
      cases hb : barF n v i a f hi hf ByteArray.empty d false false true false
      · skip
        cases hnd : wrdB (nums n)
        · skip
          have HN := hide (unhide HB false false _ false true false hb hnd rfl hq xr (by simp))
          go_enter Tryz.func41, Tryz.ntmps41
          go_wp2_with (first
            | (go_at_call 57; refine (unhide CB _ _ _ _ _ g0).mono ?_; rw [hb]; rintro e w2 ⟨rfl, g2⟩; have gw := g0.trans g2; obtain ⟨m0, m1, m2, m3, m4, m5, m6, m7, m8, m9, m10⟩ := box11 g2)
            | (go_at_call 56; refine (unhide CW _ _).mono ?_; (first | rw [hnd] | rw [hrd]); rintro e w1 ⟨rfl, rfl⟩))
          go_ret
          exact ⟨ret_bool (unhide HN), gw⟩
        · skip
          have HN := hide (unhide HB false true _ false true false hb hnd rfl hq xr (by simp))
          go_enter Tryz.func41, Tryz.ntmps41
          go_wp2_with (first
            | (go_at_call 57; refine (unhide CB _ _ _ _ _ g0).mono ?_; rw [hb]; rintro e w2 ⟨rfl, g2⟩; have gw := g0.trans g2; obtain ⟨m0, m1, m2, m3, m4, m5, m6, m7, m8, m9, m10⟩ := box11 g2)
            | (go_at_call 56; refine (unhide CW _ _).mono ?_; (first | rw [hnd] | rw [hrd]); rintro e w1 ⟨rfl, rfl⟩))
          go_ret
          exact ⟨ret_bool (unhide HN), gw⟩
      · skip
        cases hnd : wrdB (nums n)
        · skip
          by_cases en : n = ByteArray.empty
          · subst en
            have HN := hide (unhide HB true false _ false true false hb hnd rfl hq xr (by simp))
            go_enter Tryz.func41, Tryz.ntmps41
            go_wp2_with (first
              | (go_at_call 57; refine (unhide CB _ _ _ _ _ g0).mono ?_; rw [hb]; rintro e w2 ⟨rfl, g2⟩; have gw := g0.trans g2; obtain ⟨m0, m1, m2, m3, m4, m5, m6, m7, m8, m9, m10⟩ := box11 g2)
              | (go_at_call 56; refine (unhide CW _ _).mono ?_; (first | rw [hnd] | rw [hrd]); rintro e w1 ⟨rfl, rfl⟩))
            go_ret
            exact ⟨ret_bool (unhide HN), gw⟩
          · have xn : decide (n = ByteArray.empty) = false := decide_eq_false en
            obtain ⟨qn, qn2, qn3⟩ := emp_no en
            have HN := hide (unhide HB true false _ false true false hb hnd rfl hq xr (by rw [xn]; rfl))
            go_enter Tryz.func41, Tryz.ntmps41
            go_wp2_with (first
              | (go_at_call 57; refine (unhide CB _ _ _ _ _ g0).mono ?_; rw [hb]; rintro e w2 ⟨rfl, g2⟩; have gw := g0.trans g2; obtain ⟨m0, m1, m2, m3, m4, m5, m6, m7, m8, m9, m10⟩ := box11 g2)
              | (go_at_call 56; refine (unhide CW _ _).mono ?_; (first | rw [hnd] | rw [hrd]); rintro e w1 ⟨rfl, rfl⟩))
            go_ret
            exact ⟨ret_bool (unhide HN), gw⟩
        · skip
          have HN := hide (unhide HB true true _ false true true hb hnd rfl hq xr (by simp))
          go_enter Tryz.func41, Tryz.ntmps41
          go_wp2_with (first
            | (go_at_call 57; refine (unhide CB _ _ _ _ _ g0).mono ?_; rw [hb]; rintro e w2 ⟨rfl, g2⟩; have gw := g0.trans g2; obtain ⟨m0, m1, m2, m3, m4, m5, m6, m7, m8, m9, m10⟩ := box11 g2)
            | (go_at_call 56; refine (unhide CW _ _).mono ?_; (first | rw [hnd] | rw [hrd]); rintro e w1 ⟨rfl, rfl⟩))
          go_ret
          exact ⟨ret_bool (unhide HN), gw⟩
    · have xr : decide (r = ByteArray.empty) = false := decide_eq_false er
      obtain ⟨qr, qr2, qr3⟩ := emp_no er
      cases hb : barF n v i a f hi hf r d false false true false
      · skip
        cases hnd : wrdB (nums n)
        · skip
          have HN := hide (unhide HB false false _ false false false hb hnd rfl hq xr (by simp))
          go_enter Tryz.func41, Tryz.ntmps41
          go_wp2_with (first
            | (go_at_call 57; refine (unhide CB _ _ _ _ _ g0).mono ?_; rw [hb]; rintro e w2 ⟨rfl, g2⟩; have gw := g0.trans g2; obtain ⟨m0, m1, m2, m3, m4, m5, m6, m7, m8, m9, m10⟩ := box11 g2)
            | (go_at_call 56; refine (unhide CW _ _).mono ?_; (first | rw [hnd] | rw [hrd]); rintro e w1 ⟨rfl, rfl⟩))
          go_ret
          exact ⟨ret_bool (unhide HN), gw⟩
        · skip
          have HN := hide (unhide HB false true _ false false false hb hnd rfl hq xr (by simp))
          go_enter Tryz.func41, Tryz.ntmps41
          go_wp2_with (first
            | (go_at_call 57; refine (unhide CB _ _ _ _ _ g0).mono ?_; rw [hb]; rintro e w2 ⟨rfl, g2⟩; have gw := g0.trans g2; obtain ⟨m0, m1, m2, m3, m4, m5, m6, m7, m8, m9, m10⟩ := box11 g2)
            | (go_at_call 56; refine (unhide CW _ _).mono ?_; (first | rw [hnd] | rw [hrd]); rintro e w1 ⟨rfl, rfl⟩))
          go_ret
          exact ⟨ret_bool (unhide HN), gw⟩
      · skip
        cases hnd : wrdB (nums n)
        · skip
          by_cases en : n = ByteArray.empty
          · subst en
            have HN := hide (unhide HB true false _ false false false hb hnd rfl hq xr (by simp))
            go_enter Tryz.func41, Tryz.ntmps41
            go_wp2_with (first
              | (go_at_call 57; refine (unhide CB _ _ _ _ _ g0).mono ?_; rw [hb]; rintro e w2 ⟨rfl, g2⟩; have gw := g0.trans g2; obtain ⟨m0, m1, m2, m3, m4, m5, m6, m7, m8, m9, m10⟩ := box11 g2)
              | (go_at_call 56; refine (unhide CW _ _).mono ?_; (first | rw [hnd] | rw [hrd]); rintro e w1 ⟨rfl, rfl⟩))
            go_ret
            exact ⟨ret_bool (unhide HN), gw⟩
          · have xn : decide (n = ByteArray.empty) = false := decide_eq_false en
            obtain ⟨qn, qn2, qn3⟩ := emp_no en
            have HN := hide (unhide HB true false _ false false false hb hnd rfl hq xr (by rw [xn]; rfl))
            go_enter Tryz.func41, Tryz.ntmps41
            go_wp2_with (first
              | (go_at_call 57; refine (unhide CB _ _ _ _ _ g0).mono ?_; rw [hb]; rintro e w2 ⟨rfl, g2⟩; have gw := g0.trans g2; obtain ⟨m0, m1, m2, m3, m4, m5, m6, m7, m8, m9, m10⟩ := box11 g2)
              | (go_at_call 56; refine (unhide CW _ _).mono ?_; (first | rw [hnd] | rw [hrd]); rintro e w1 ⟨rfl, rfl⟩))
            go_ret
            exact ⟨ret_bool (unhide HN), gw⟩
        · skip
          have HN := hide (unhide HB true true _ false false false hb hnd rfl hq xr (by simp))
          go_enter Tryz.func41, Tryz.ntmps41
          go_wp2_with (first
            | (go_at_call 57; refine (unhide CB _ _ _ _ _ g0).mono ?_; rw [hb]; rintro e w2 ⟨rfl, g2⟩; have gw := g0.trans g2; obtain ⟨m0, m1, m2, m3, m4, m5, m6, m7, m8, m9, m10⟩ := box11 g2)
            | (go_at_call 56; refine (unhide CW _ _).mono ?_; (first | rw [hnd] | rw [hrd]); rintro e w1 ⟨rfl, rfl⟩))
          go_ret
          exact ⟨ret_bool (unhide HN), gw⟩
  · have er : ¬ r = ByteArray.empty := fun e => by rw [e] at hrd; exact Bool.false_ne_true hrd
    have xr : decide (r = ByteArray.empty) = false := decide_eq_false er
    obtain ⟨qr, qr2, qr3⟩ := emp_no er
    by_cases ed : r = dnT
    · subst ed
      have hq : (wrdB (nums dnT) && !decide (dnT = dnT)) = false := by simp
      have xd : dnT.toList = [100, 110] := by rw [Lib.toList_data]; rfl
      have xe : (dnT.toList == [100, 110]) = true := by rw [xd]; rfl
      cases hb : barF n v i a f hi hf dnT d false false true false
      · skip
        cases hnd : wrdB (nums n)
        · skip
          have HN := hide (unhide HB false false _ false false false hb hnd rfl hq xr (by simp))
          go_enter Tryz.func41, Tryz.ntmps41
          go_wp2_with (first
            | (go_at_call 57; refine (unhide CB _ _ _ _ _ g0).mono ?_; rw [hb]; rintro e w2 ⟨rfl, g2⟩; have gw := g0.trans g2; obtain ⟨m0, m1, m2, m3, m4, m5, m6, m7, m8, m9, m10⟩ := box11 g2)
            | (go_at_call 56; refine (unhide CW _ _).mono ?_; (first | rw [hnd] | rw [hrd]); rintro e w1 ⟨rfl, rfl⟩))
          go_ret
          exact ⟨ret_bool (unhide HN), gw⟩
        · skip
          have HN := hide (unhide HB false true _ false false false hb hnd rfl hq xr (by simp))
          go_enter Tryz.func41, Tryz.ntmps41
          go_wp2_with (first
            | (go_at_call 57; refine (unhide CB _ _ _ _ _ g0).mono ?_; rw [hb]; rintro e w2 ⟨rfl, g2⟩; have gw := g0.trans g2; obtain ⟨m0, m1, m2, m3, m4, m5, m6, m7, m8, m9, m10⟩ := box11 g2)
            | (go_at_call 56; refine (unhide CW _ _).mono ?_; (first | rw [hnd] | rw [hrd]); rintro e w1 ⟨rfl, rfl⟩))
          go_ret
          exact ⟨ret_bool (unhide HN), gw⟩
      · skip
        cases hnd : wrdB (nums n)
        · skip
          by_cases en : n = ByteArray.empty
          · subst en
            have HN := hide (unhide HB true false _ false false false hb hnd rfl hq xr (by simp))
            go_enter Tryz.func41, Tryz.ntmps41
            go_wp2_with (first
              | (go_at_call 57; refine (unhide CB _ _ _ _ _ g0).mono ?_; rw [hb]; rintro e w2 ⟨rfl, g2⟩; have gw := g0.trans g2; obtain ⟨m0, m1, m2, m3, m4, m5, m6, m7, m8, m9, m10⟩ := box11 g2)
              | (go_at_call 56; refine (unhide CW _ _).mono ?_; (first | rw [hnd] | rw [hrd]); rintro e w1 ⟨rfl, rfl⟩))
            go_ret
            exact ⟨ret_bool (unhide HN), gw⟩
          · have xn : decide (n = ByteArray.empty) = false := decide_eq_false en
            obtain ⟨qn, qn2, qn3⟩ := emp_no en
            have HN := hide (unhide HB true false _ false false false hb hnd rfl hq xr (by rw [xn]; rfl))
            go_enter Tryz.func41, Tryz.ntmps41
            go_wp2_with (first
              | (go_at_call 57; refine (unhide CB _ _ _ _ _ g0).mono ?_; rw [hb]; rintro e w2 ⟨rfl, g2⟩; have gw := g0.trans g2; obtain ⟨m0, m1, m2, m3, m4, m5, m6, m7, m8, m9, m10⟩ := box11 g2)
              | (go_at_call 56; refine (unhide CW _ _).mono ?_; (first | rw [hnd] | rw [hrd]); rintro e w1 ⟨rfl, rfl⟩))
            go_ret
            exact ⟨ret_bool (unhide HN), gw⟩
        · skip
          have HN := hide (unhide HB true true _ false false false hb hnd rfl hq xr (by simp))
          go_enter Tryz.func41, Tryz.ntmps41
          go_wp2_with (first
            | (go_at_call 57; refine (unhide CB _ _ _ _ _ g0).mono ?_; rw [hb]; rintro e w2 ⟨rfl, g2⟩; have gw := g0.trans g2; obtain ⟨m0, m1, m2, m3, m4, m5, m6, m7, m8, m9, m10⟩ := box11 g2)
            | (go_at_call 56; refine (unhide CW _ _).mono ?_; (first | rw [hnd] | rw [hrd]); rintro e w1 ⟨rfl, rfl⟩))
          go_ret
          exact ⟨ret_bool (unhide HN), gw⟩
    · have hq : (wrdB (nums r) && !decide (r = dnT)) = true := by rw [decide_eq_false ed, hrd]; rfl
      have xd : (r.toList == [100, 110]) = false := by
        have := txt_no ed
        have e : dnT.toList = [100, 110] := by rw [Lib.toList_data]; rfl
        rwa [e] at this
      have xe : ¬ r.toList = [100, 110] := beq_eq_false_iff_ne.1 xd
      cases hb : barF n v i a f hi hf r d false false true false
      · skip
        cases hnd : wrdB (nums n)
        · skip
          have HN := hide (unhide HB false false _ true false false hb hnd rfl hq xr (by simp))
          go_enter Tryz.func41, Tryz.ntmps41
          go_wp2_with (first
            | (go_at_call 57; refine (unhide CB _ _ _ _ _ g0).mono ?_; rw [hb]; rintro e w2 ⟨rfl, g2⟩; have gw := g0.trans g2; obtain ⟨m0, m1, m2, m3, m4, m5, m6, m7, m8, m9, m10⟩ := box11 g2)
            | (go_at_call 56; refine (unhide CW _ _).mono ?_; (first | rw [hnd] | rw [hrd]); rintro e w1 ⟨rfl, rfl⟩))
          go_ret
          exact ⟨ret_bool (unhide HN), gw⟩
        · skip
          have HN := hide (unhide HB false true _ true false false hb hnd rfl hq xr (by simp))
          go_enter Tryz.func41, Tryz.ntmps41
          go_wp2_with (first
            | (go_at_call 57; refine (unhide CB _ _ _ _ _ g0).mono ?_; rw [hb]; rintro e w2 ⟨rfl, g2⟩; have gw := g0.trans g2; obtain ⟨m0, m1, m2, m3, m4, m5, m6, m7, m8, m9, m10⟩ := box11 g2)
            | (go_at_call 56; refine (unhide CW _ _).mono ?_; (first | rw [hnd] | rw [hrd]); rintro e w1 ⟨rfl, rfl⟩))
          go_ret
          exact ⟨ret_bool (unhide HN), gw⟩
      · skip
        cases hnd : wrdB (nums n)
        · skip
          by_cases en : n = ByteArray.empty
          · subst en
            have HN := hide (unhide HB true false _ true false true hb hnd rfl hq xr (by simp))
            go_enter Tryz.func41, Tryz.ntmps41
            go_wp2_with (first
              | (go_at_call 57; refine (unhide CB _ _ _ _ _ g0).mono ?_; rw [hb]; rintro e w2 ⟨rfl, g2⟩; have gw := g0.trans g2; obtain ⟨m0, m1, m2, m3, m4, m5, m6, m7, m8, m9, m10⟩ := box11 g2)
              | (go_at_call 56; refine (unhide CW _ _).mono ?_; (first | rw [hnd] | rw [hrd]); rintro e w1 ⟨rfl, rfl⟩))
            go_ret
            exact ⟨ret_bool (unhide HN), gw⟩
          · have xn : decide (n = ByteArray.empty) = false := decide_eq_false en
            obtain ⟨qn, qn2, qn3⟩ := emp_no en
            have HN := hide (unhide HB true false _ true false false hb hnd rfl hq xr (by rw [xn]; rfl))
            go_enter Tryz.func41, Tryz.ntmps41
            go_wp2_with (first
              | (go_at_call 57; refine (unhide CB _ _ _ _ _ g0).mono ?_; rw [hb]; rintro e w2 ⟨rfl, g2⟩; have gw := g0.trans g2; obtain ⟨m0, m1, m2, m3, m4, m5, m6, m7, m8, m9, m10⟩ := box11 g2)
              | (go_at_call 56; refine (unhide CW _ _).mono ?_; (first | rw [hnd] | rw [hrd]); rintro e w1 ⟨rfl, rfl⟩))
            go_ret
            exact ⟨ret_bool (unhide HN), gw⟩
        · skip
          have HN := hide (unhide HB true true _ true false true hb hnd rfl hq xr (by simp))
          go_enter Tryz.func41, Tryz.ntmps41
          go_wp2_with (first
            | (go_at_call 57; refine (unhide CB _ _ _ _ _ g0).mono ?_; rw [hb]; rintro e w2 ⟨rfl, g2⟩; have gw := g0.trans g2; obtain ⟨m0, m1, m2, m3, m4, m5, m6, m7, m8, m9, m10⟩ := box11 g2)
            | (go_at_call 56; refine (unhide CW _ _).mono ?_; (first | rw [hnd] | rw [hrd]); rintro e w1 ⟨rfl, rfl⟩))
          go_ret
          exact ⟨ret_bool (unhide HN), gw⟩
end Go.Proofs.YthbldkkjjjmegaaGreatDoor
/- The document's one of layer 24: a case. (By gen_on.py.) -/
namespace Go.Proofs.YthbldkkjjjmegaaGreatDoor
set_option maxRecDepth 100000
open Go.RowKit

set_option maxHeartbeats 6400000 in
theorem oneno_any (k : Int) (n v i : ByteArray) (a : List ByteArray) (f : ByteArray) (hi hf : Bool) (r : ByteArray) (d : Bool) (a1 a2 : Option Addr) (c1 m c2 : Nat) (w : World) (hn : a.length ≤ 1000000) (ht : TxC w a1 a) (hk : k < 0 ∨ 9 < k) (hm0 : m = 0) (hv : ¬ 400 < v.size) : Calls Tryz.prog 41 #[vFl k n v i a1 a.length c1 f hi hf r d a2 m c2] w fun x w' => x = .returned (.bool (oneF k n v i a f hi hf r d m)) ∧ Gr w w' := by
  have CW := hide (fun s W => rword_any s W)
  have CB : Hid (∀ bn bv bp br W, Gr w W → _) := fun bn bv bp br W (hW : Gr w W) => rbare_any k n v i a f hi hf r d bn bv bp br a1 a2 c1 m c2 W (ht.below hW.below)
  have CF : Hid (∀ W, Gr w W → _) := fun W (hW : Gr w W) => rfine_any i f hi hf a a1 c1 W hn (ht.below hW.below)
  have g0 := Gr.one w (.cells (cFl k n v i a1 a.length c1 f hi hf r d a2 m c2) 27)
  clear ht
  subst hm0
  have y1 : ¬ (400 : Int) < (v.size : Int) := by omega
  have y2 : decide (400 < v.size) = false := decide_eq_false (by omega)
  obtain ⟨nd, hnd⟩ : ∃ b, wrdB (nums n) = b := ⟨_, rfl⟩
  have HN : Hid (false = oneF k n v i a f hi hf r d 0) := by
    show _ = _
    unfold oneF oneQ
    rw [if_neg (by omega), if_neg (by omega), y2, if_neg (by simp), if_neg (by omega), if_neg (by omega), if_neg (by omega), if_neg (by omega)]
  have q0 : (k == 0) = false := by rw [beq_eq_false_iff_ne]; omega
  have q1 : (k == 1) = false := by rw [beq_eq_false_iff_ne]; omega
  have q2 : (k == 2) = false := by rw [beq_eq_false_iff_ne]; omega
  have q3 : (k == 3) = false := by rw [beq_eq_false_iff_ne]; omega
  have q4 : (k == 4) = false := by rw [beq_eq_false_iff_ne]; omega
  have q5 : (k == 5) = false := by rw [beq_eq_false_iff_ne]; omega
  have q6 : (k == 6) = false := by rw [beq_eq_false_iff_ne]; omega
  have q7 : (k == 7) = false := by rw [beq_eq_false_iff_ne]; omega
  have q8 : (k == 8) = false := by rw [beq_eq_false_iff_ne]; omega
  have q9 : (k == 9) = false := by rw [beq_eq_false_iff_ne]; omega
  clear hk
  go_enter Tryz.func41, Tryz.ntmps41
  go_wp2_with (first
    | (go_at_call 56; refine (unhide CW _ _).mono ?_; rw [hnd]; rintro e w1 ⟨rfl, rfl⟩))
  go_ret
  exact ⟨ret_bool (unhide HN), g0⟩
end Go.Proofs.YthbldkkjjjmegaaGreatDoor
/- The document's one of layer 24. (By gen_on.py.) -/
namespace Go.Proofs.YthbldkkjjjmegaaGreatDoor
set_option maxRecDepth 100000
open Go.RowKit

theorem rone_any (k : Int) (n v i : ByteArray) (a : List ByteArray) (f : ByteArray) (hi hf : Bool) (r : ByteArray) (d : Bool) (a1 a2 : Option Addr) (c1 m c2 : Nat) (w : World) (hn : a.length ≤ 1000000) (ht : TxC w a1 a) : Calls Tryz.prog 41 #[vFl k n v i a1 a.length c1 f hi hf r d a2 m c2] w fun x w' => x = .returned (.bool (oneF k n v i a f hi hf r d m)) ∧ Gr w w' := by
  by_cases h01 : k = 0 ∨ k = 1
  · exact one01_any k n v i a f hi hf r d a1 a2 c1 m c2 w hn ht h01
  by_cases h2 : k = 2
  · exact one2_any k n v i a f hi hf r d a1 a2 c1 m c2 w hn ht h2
  by_cases hb : m ≠ 0 ∨ 400 < v.size
  · exact onebad_any k n v i a f hi hf r d a1 a2 c1 m c2 w hn ht (fun h => h01 (.inl h)) (fun h => h01 (.inr h)) h2 hb
  have hm0 : m = 0 := by omega
  have hv : ¬ 400 < v.size := by omega
  by_cases h3 : k = 3 ∨ k = 5 ∨ k = 6 ∨ k = 8
  · exact one3_any k n v i a f hi hf r d a1 a2 c1 m c2 w hn ht h3 hm0 hv
  by_cases h7 : k = 7
  · exact one7_any k n v i a f hi hf r d a1 a2 c1 m c2 w hn ht h7 hm0 hv
  by_cases h4 : k = 4
  · exact one4_any k n v i a f hi hf r d a1 a2 c1 m c2 w hn ht h4 hm0 hv
  by_cases h9 : k = 9
  · exact one9_any k n v i a f hi hf r d a1 a2 c1 m c2 w hn ht h9 hm0 hv
  · exact oneno_any k n v i a f hi hf r d a1 a2 c1 m c2 w hn ht (by omega) hm0 hv
end Go.Proofs.YthbldkkjjjmegaaGreatDoor
/- The document's all, Check of layer 24. (By gen_al.py.) -/
namespace Go.Proofs.YthbldkkjjjmegaaGreatDoor
set_option maxRecDepth 100000
open Go.RowKit

/-- Are the rows of texts of a filter, and of all in it, such as may be in memory? -/
def smF : Fl → Prop
  | .mk _ _ _ _ a _ _ _ _ _ kids => a.length ≤ 1000000 ∧ L kids
  where
  L : List Fl → Prop
  | [] => True
  | e :: t => smF e ∧ L t
theorem smF.L.get : ∀ {l : List Fl}, smF.L l → ∀ j, j < l.length → smF (l.getD j fl0)
  | [], _, j, hj => by simp at hj
  | e :: t, h, 0, _ => by simp only [smF.L] at h; exact h.1
  | e :: t, h, j + 1, hj => by
    simp only [smF.L] at h
    have := smF.L.get h.2 j (by simpa using hj)
    simpa using this
/-- May a filter, and all in it, be (but for how deep, how many)? -/
def allF : Fl → Bool
  | .mk k n v i a f hi hf r d kids => L kids && oneF k n v i a f hi hf r d kids.length
  where
  L : List Fl → Bool
  | [] => true
  | e :: t => allF e && L t
theorem allL_drop (l : List Fl) (j : Nat) (h : j < l.length) : allF.L (l.drop j) = (allF (l.getD j fl0) && allF.L (l.drop (j + 1))) := by rw [drop_consF l j h]; simp only [allF.L]
set_option maxHeartbeats 3200000 in
theorem rall_any (e : Fl) : ∀ (x : Value) (w : World), FlV w e x → smF e → Calls Tryz.prog 22 #[x] w fun y w' => y = .returned (.bool (allF e)) ∧ Gr w w' := by
  induction e using Fl.ind with
  | h c n v i a f hi hf r d kids ih =>
    intro x w hV hS
    simp only [FlV] at hV
    simp only [smF] at hS
    obtain ⟨a1, c1, a2, c2, rfl, ht, hn, hc⟩ := hV
    obtain ⟨hs1, hs2⟩ := hS
    have HIH := hide ih
    have HL := hide hc
    have HS2 := hide hs2
    have HD : Hid (allF (.mk c n v i a f hi hf r d kids) = (allF.L kids && oneF c n v i a f hi hf r d kids.length)) := by show _ = _; simp only [allF]
    have CO : Hid (∀ W, Gr w W → _) := fun W (hW : Gr w W) => rone_any c n v i a f hi hf r d a1 a2 c1 kids.length c2 W hs1 (ht.below hW.below)
    clear ih hc hs2 ht
    go_enter Tryz.func22, Tryz.ntmps22
    go_wp2
    go_loopw [3] (fun vj wr => ∃ j : Nat, j ≤ kids.length ∧ vj = .int .i64 (j : Int) ∧ Hid (allF.L kids = allF.L (kids.drop j)) ∧ Gr (w.alloc (.cells (cFl c n v i a1 a.length c1 f hi hf r d a2 kids.length c2) 27)) wr) (fun j _ => kids.length - (intOf j).toNat)
    case atStart => exact ⟨0, Nat.zero_le _, rfl, rfl, Gr.refl _⟩
    case round =>
      obtain ⟨j, hj, rfl, HB, hnx⟩ := hrel
      obtain ⟨b0, b1, b2, b3, b4, b5, b6, b7, b8, b9, b10⟩ := box11 hnx
      have gw := (Gr.one w _).trans hnx
      by_cases hlt : j < kids.length
      · have hzl : (j : Int) < (kids.length : Int) := by omega
        have hz0 : (0 : Int) ≤ (j : Int) := by omega
        obtain ⟨g, off, rfl, hl⟩ := (unhide HL).resolve_left (by omega)
        obtain ⟨x0, x1, x2, x3, x4, x5, x6, x7, x8, x9, x10, q0, q1, q2, q3, q4, q5, q6, q7, q8, q9, q10, hv⟩ := hl.get j hlt
        have p0 := gw.cell q0
        have p1 := gw.cell q1
        have p2 := gw.cell q2
        have p3 := gw.cell q3
        have p4 := gw.cell q4
        have p5 := gw.cell q5
        have p6 := gw.cell q6
        have p7 := gw.cell q7
        have p8 := gw.cell q8
        have p9 := gw.cell q9
        have p10 := gw.cell q10
        have CI := unhide HIH _ (getD_memF kids j hlt) _ wr (hv.grow gw.below) (smF.L.get (unhide HS2) j hlt)
        have HS := hide (allL_drop kids j hlt)
        clear q0 q1 q2 q3 q4 q5 q6 q7 q8 q9 q10 hv hl
        cases hf2 : allF (kids.getD j fl0)
        · rw [hf2] at CI HS
          have HE : Hid (allF (.mk c n v i a f hi hf r d kids) = false) := by show _ = _; rw [unhide HD, unhide HB, unhide HS]; rfl
          clear hf2
          go_wp2_with (go_at_call 22; refine CI.mono ?_; rintro e w2 ⟨rfl, g2⟩)
          go_ret
          exact ⟨ret_bool (unhide HE).symm, gw.trans g2⟩
        · rw [hf2] at CI HS
          clear hf2
          go_wp2_with (go_at_call 22; refine CI.mono ?_; rintro e w2 ⟨rfl, g2⟩)
          go_roundw
          case rel => exact ⟨j + 1, by omega, by go_num, (by show _ = _; rw [unhide HB, unhide HS]; rfl), hnx.trans g2⟩
          case measure => simp [intOf]; omega
      · have hzl : ¬ (j : Int) < (kids.length : Int) := by omega
        have HF : Hid (oneF c n v i a f hi hf r d kids.length = allF (.mk c n v i a f hi hf r d kids)) := by
          show _ = _
          rw [unhide HD, unhide HB, List.drop_eq_nil_of_le (by omega)]
          simp only [allF.L, Bool.true_and]
        have CI := unhide CO wr gw
        generalize oneF c n v i a f hi hf r d kids.length = on at *
        go_wp2_with (go_at_call 41; refine CI.mono ?_; rintro e w2 ⟨rfl, g2⟩)
        go_ret
        exact ⟨ret_bool (unhide HF), gw.trans g2⟩
/-- What Check tells. -/
def chkF (e : Fl) : Int := if 8 < deepF e 9 ∨ 60 < countF e ∨ allF e = false then 240 else 0
set_option maxHeartbeats 1600000 in
theorem rcheck24_any (e : Fl) (x : Value) (w : World) (hV : FlV w e x) (hS : smF e) : Calls Tryz.prog 10 #[x] w fun y w' => y = .returned (.int .i64 (chkF e)) ∧ Gr w w' := by
  obtain ⟨a1, c1, a2, c2, hv, _⟩ := hV.open
  have H1 := hide fun (w2 : World) (g : Gr w w2) => rDeep_any e x w2 (hV.grow g.below)
  have H2 := hide fun (w2 : World) (g : Gr w w2) => rCount_any e x w2 (hV.grow g.below)
  have H3 := hide fun (w2 : World) (g : Gr w w2) => rall_any e x w2 (hV.grow g.below) hS
  clear hV
  subst hv
  have g0 := Gr.one w (.cells (cFl e.kin e.nam e.val e.ini a1 e.any.length c1 e.fin e.hi e.hf e.rul e.dn a2 e.kids.length c2) 27)
  have HC : Hid (chkF e = if 8 < deepF e 9 ∨ 60 < countF e ∨ allF e = false then 240 else 0) := rfl
  by_cases hd : 8 < deepF e 9
  · have zd : (8 : Int) < ((deepF e 9 : Nat) : Int) := by omega
    have HE : Hid (240 = chkF e) := by show _ = _; rw [unhide HC, if_pos (.inl hd)]
    clear HC
    generalize ((deepF e 9 : Nat) : Int) = y at *
    go_enter Tryz.func10, Tryz.ntmps10
    go_wp2_with (go_at_call 12; refine (unhide H1 _ g0).mono ?_; rintro e w2 ⟨rfl, g2⟩)
    go_ret
    exact ⟨ret_int (unhide HE), g0.trans g2⟩
  · have zd : ¬ (8 : Int) < ((deepF e 9 : Nat) : Int) := by omega
    by_cases hc : 60 < countF e
    · have zc : (60 : Int) < ((countF e : Nat) : Int) := by omega
      have HE : Hid (240 = chkF e) := by show _ = _; rw [unhide HC, if_pos (.inr (.inl hc))]
      clear HC
      generalize ((deepF e 9 : Nat) : Int) = y at *
      generalize ((countF e : Nat) : Int) = z at *
      go_enter Tryz.func10, Tryz.ntmps10
      go_wp2_with (first
        | (go_at_call 14; refine (unhide H2 _ h2).mono ?_; rintro e w3 ⟨rfl, g3⟩)
        | (go_at_call 12; refine (unhide H1 _ g0).mono ?_; rintro e w2 ⟨rfl, g2⟩; have h2 := g0.trans g2; obtain ⟨nn0, nn1, nn2, nn3, nn4, nn5, nn6, nn7, nn8, nn9, nn10⟩ := box11 g2))
      go_ret
      exact ⟨ret_int (unhide HE), h2.trans g3⟩
    · have zc : ¬ (60 : Int) < ((countF e : Nat) : Int) := by omega
      cases ha : allF e
      · have HE : Hid (240 = chkF e) := by show _ = _; rw [unhide HC, if_pos (.inr (.inr ha))]
        rw [ha] at H3
        clear HC
        generalize ((deepF e 9 : Nat) : Int) = y at *
        generalize ((countF e : Nat) : Int) = z at *
        go_enter Tryz.func10, Tryz.ntmps10
        go_wp2_with (first
          | (go_at_call 22; refine (unhide H3 _ h3).mono ?_; rintro e w4 ⟨rfl, g4⟩)
          | (go_at_call 14; refine (unhide H2 _ h2).mono ?_; rintro e w3 ⟨rfl, g3⟩; have h3 := h2.trans g3; obtain ⟨rr0, rr1, rr2, rr3, rr4, rr5, rr6, rr7, rr8, rr9, rr10⟩ := box11 (g2.trans g3))
          | (go_at_call 12; refine (unhide H1 _ g0).mono ?_; rintro e w2 ⟨rfl, g2⟩; have h2 := g0.trans g2; obtain ⟨nn0, nn1, nn2, nn3, nn4, nn5, nn6, nn7, nn8, nn9, nn10⟩ := box11 g2))
        go_ret
        exact ⟨ret_int (unhide HE), h3.trans g4⟩
      · have HE : Hid (0 = chkF e) := by show _ = _; rw [unhide HC, if_neg (fun h => h.elim hd (fun h => h.elim hc (fun h => Bool.noConfusion (ha.symm.trans h))))]
        rw [ha] at H3
        clear HC
        generalize ((deepF e 9 : Nat) : Int) = y at *
        generalize ((countF e : Nat) : Int) = z at *
        go_enter Tryz.func10, Tryz.ntmps10
        go_wp2_with (first
          | (go_at_call 22; refine (unhide H3 _ h3).mono ?_; rintro e w4 ⟨rfl, g4⟩)
          | (go_at_call 14; refine (unhide H2 _ h2).mono ?_; rintro e w3 ⟨rfl, g3⟩; have h3 := h2.trans g3; obtain ⟨rr0, rr1, rr2, rr3, rr4, rr5, rr6, rr7, rr8, rr9, rr10⟩ := box11 (g2.trans g3))
          | (go_at_call 12; refine (unhide H1 _ g0).mono ?_; rintro e w2 ⟨rfl, g2⟩; have h2 := g0.trans g2; obtain ⟨nn0, nn1, nn2, nn3, nn4, nn5, nn6, nn7, nn8, nn9, nn10⟩ := box11 g2))
        go_ret
        exact ⟨ret_int (unhide HE), h3.trans g4⟩
end Go.Proofs.YthbldkkjjjmegaaGreatDoor
/- Filters and their texts, plainly: how a value and a filter are written, how they are read. -/
namespace Go.Proofs.YthbldkkjjjmegaaGreatDoor
set_option maxRecDepth 100000
open Go.RowKit

/-- Must a byte of a value be told by digits? -/
def escV (c : Int) : Bool := decide (c < 32 ∨ c = 127 ∨ (40 ≤ c ∧ c ≤ 42) ∨ c = 92)
def vByte (c : Int) : List Int := if escV c = true then [92, hexD (c / 16), hexD (c % 16)] else [c]
/-- The text of a value; of what stands between a beginning and an end, each with its star. -/
def vTxt : List Int → List Int
  | [] => []
  | c :: t => vByte c ++ vTxt t
def anyT : List ByteArray → List Int
  | [] => []
  | x :: t => vTxt (nums x) ++ 42 :: anyT t
def starT (i : ByteArray) (a : List ByteArray) (f : ByteArray) : List Int := vTxt (nums i) ++ 42 :: (anyT a ++ vTxt (nums f))
/-- What stands between the bracket and the kids. -/
def extT (r : ByteArray) (d : Bool) : List Int := (if d = true then [58, 100, 110] else []) ++ ((if r = ⟨#[]⟩ then [] else 58 :: nums r) ++ [58, 61])
def headF (k : Int) (n i : ByteArray) (a : List ByteArray) (f r : ByteArray) (d : Bool) : List Int :=
  if k = 0 then [38] else if k = 1 then [124] else if k = 2 then [33] else nums n ++
    (if k = 3 then [61] else if k = 5 then [62, 61] else if k = 6 then [60, 61] else if k = 8 then [126, 61] else if k = 7 then [61, 42] else if k = 4 then 61 :: starT i a f else extT r d)
def textF : Fl → List Int
  | .mk k n v i a f _ _ r d kids => 40 :: (headF k n i a f r d ++ (L kids ++ (vTxt (nums v) ++ [41])))
  where
  L : List Fl → List Int
  | [] => []
  | e :: t => textF e ++ L t
/-- What Show answers. -/
def shoF (e : Fl) : ByteArray := if chkF e = 0 then strOfNums (textF e) else ⟨#[]⟩

/-- What a text says. -/
def plainV : List Int → Option (List Int)
  | [] => some []
  | c :: t =>
    if c = 0 ∨ (40 ≤ c ∧ c ≤ 42) then none
    else if c = 92 then
      match t with
      | d :: e :: u => if unh d < 16 ∧ unh e < 16 then (plainV u).map fun x => (16 * unh d + unh e) :: x else none
      | _ => none
    else (plainV t).map fun x => c :: x
/-- A text, parted at each byte of a sort. -/
def splitL (b : Int) : List Int → List (List Int)
  | [] => [[]]
  | c :: t => if c = b then [] :: splitL b t else
    match splitL b t with
    | [] => [[c]]
    | x :: r => (c :: x) :: r
/-- A text, cut at the first byte of a sort, if there is one. -/
def cutL (b : Int) : List Int → Option (List Int × List Int)
  | [] => none
  | c :: t => if c = b then some ([], t) else (cutL b t).map fun x => (c :: x.1, x.2)
/-- What stands behind the first star: the pieces between, and the end. -/
def midP : List (List Int) → Option (List ByteArray × List Int)
  | [] => none
  | x :: t =>
    match t with
    | [] => (plainV x).map fun v => ([], v)
    | _ :: _ =>
      match plainV x with
      | none => none
      | some v => if v = [] then none else (midP t).map fun y => (strOfNums v :: y.1, y.2)
def subF (n : List Int) (i : List Int) (a : List ByteArray) (f : List Int) : Fl :=
  .mk 4 (strOfNums n) ⟨#[]⟩ (strOfNums i) a (strOfNums f) (!i.isEmpty) (!f.isEmpty) ⟨#[]⟩ false []
def starP (n : List Int) (l : List (List Int)) : Option Fl :=
  if l = [[], []] then some (.mk 7 (strOfNums n) ⟨#[]⟩ ⟨#[]⟩ [] ⟨#[]⟩ false false ⟨#[]⟩ false []) else
  match l with
  | [] => none
  | x :: t =>
    match plainV x with
    | none => none
    | some v => (midP t).map fun y => subF n v y.1 y.2
/-- Name, dn and rule of what stands ahead of a := . -/
def extP (l : List (List Int)) : Option (List Int × Bool × List Int) :=
  match l with
  | [n] => some (n, false, [])
  | [n, x] => if x = [100, 110] then some (n, true, []) else if x = [] then none else some (n, false, x)
  | [n, x, y] => if x = [100, 110] ∧ y ≠ [] then some (n, true, y) else none
  | _ => none
def itmF (k : Int) (n v : List Int) (r : List Int) (d : Bool) : Fl := .mk k (strOfNums n) (strOfNums v) ⟨#[]⟩ [] ⟨#[]⟩ false false (strOfNums r) d []
/-- A filter without kids, without its brackets. -/
def itemP (s : List Int) : Option Fl :=
  match cutL 61 s with
  | none => none
  | some (h, t) =>
    if h.getLast? = some 62 then (plainV t).map fun v => itmF 5 (h.dropLast.map smlC) v [] false
    else if h.getLast? = some 60 then (plainV t).map fun v => itmF 6 (h.dropLast.map smlC) v [] false
    else if h.getLast? = some 126 then (plainV t).map fun v => itmF 8 (h.dropLast.map smlC) v [] false
    else if h.getLast? = some 58 then
      match extP (splitL 58 (h.dropLast.map smlC)) with
      | none => none
      | some (n, d, r) => (plainV t).map fun v => itmF 9 n v r d
    else if 1 < (splitL 42 t).length then starP (h.map smlC) (splitL 42 t)
    else (plainV t).map fun v => itmF 3 (h.map smlC) v [] false
/-- The kind of a sign. -/
def boolK (c : Int) : Int := if c = 38 then 0 else if c = 124 then 1 else if c = 33 then 2 else -1
/-- Kids, up to the bracket behind them (tk: how one is read, so many parts having been begun). -/
def kidsG (tk : Nat → List Int → Option (Fl × List Int × Nat)) : Nat → Nat → List Fl → List Int → Option (List Fl × List Int × Nat)
  | 0, _, _, _ => none
  | n + 1, p, acc, s =>
    match s with
    | [] => none
    | c :: r => if c = 41 then some (acc, r, p) else
      match tk p (c :: r) with
      | none => none
      | some (k, r2, p2) => kidsG tk n p2 (acc ++ [k]) r2
def kndF (k : Int) (kids : List Fl) : Fl := .mk k ⟨#[]⟩ ⟨#[]⟩ ⟨#[]⟩ [] ⟨#[]⟩ false false ⟨#[]⟩ false kids
/-- The filter that a text begins with, the rest, and how many parts were begun; so many levels are left. -/
def takeL : Nat → Nat → List Int → Option (Fl × List Int × Nat)
  | 0, _, _ => none
  | m + 1, p, s => if 60 < p + 1 then none else
    match s with
    | [] => none
    | c :: t => if c ≠ 40 then none else
      if 0 ≤ boolK (t.getD 0 0) then (kidsG (takeL m) (t.length + 1) (p + 1) [] (t.drop 1)).map fun x => (kndF (boolK (t.getD 0 0)) x.1, x.2.1, x.2.2)
      else
        match cutL 41 t with
        | none => none
        | some (x, r) => (itemP x).map fun g => (g, r, p + 1)
/-- The filter of a text, and the error. -/
def parO (l : List Int) : Option Fl :=
  match takeL 8 0 l with
  | none => none
  | some (f, r, _) => if r = [] ∧ chkF f = 0 then some f else none
def parF (s : ByteArray) : Fl := if 4000 < s.size then fl0 else (parO (nums s)).getD fl0
def parE24 (s : ByteArray) : Int := if 4000 < s.size then 3 else if (parO (nums s)).isSome = true then 0 else 240
end Go.Proofs.YthbldkkjjjmegaaGreatDoor
/- A value's text, read; texts parted and cut, plainly. -/
namespace Go.Proofs.YthbldkkjjjmegaaGreatDoor
set_option maxRecDepth 100000
open Go.RowKit

theorem plain_nil : plainV [] = some [] := by rw [plainV.eq_def]
theorem plain_no {c : Int} (t : List Int) (h : c = 0 ∨ (40 ≤ c ∧ c ≤ 42)) : plainV (c :: t) = none := by
  rw [plainV.eq_def]
  simp only
  rw [if_pos h]
theorem plain_hex (d e : Int) (u : List Int) : plainV (92 :: d :: e :: u) = if unh d < 16 ∧ unh e < 16 then (plainV u).map fun x => (16 * unh d + unh e) :: x else none := by
  rw [plainV.eq_def]
  simp only
  rw [if_neg (by decide), if_pos trivial]
theorem plain_h0 : plainV [92] = none := by
  rw [plainV.eq_def]
  simp only
  rw [if_neg (by decide), if_pos trivial]
theorem plain_h1 (d : Int) : plainV [92, d] = none := by
  rw [plainV.eq_def]
  simp only
  rw [if_neg (by decide), if_pos trivial]
theorem plain_bare {c : Int} (t : List Int) (h : ¬ (c = 0 ∨ (40 ≤ c ∧ c ≤ 42))) (h2 : ¬ c = 92) : plainV (c :: t) = (plainV t).map fun x => c :: x := by
  rw [plainV.eq_def]
  simp only
  rw [if_neg h, if_neg h2]
theorem hexD_in {n : Int} (h0 : 0 ≤ n) (h1 : n < 16) : (48 ≤ hexD n ∧ hexD n ≤ 57) ∨ (97 ≤ hexD n ∧ hexD n ≤ 102) := by
  unfold hexD
  by_cases h : n < 10
  · rw [if_pos h]; omega
  · rw [if_neg h]; omega
/-- A value's text is read as it was written. -/
theorem plain_back : ∀ l : List Int, (∀ x ∈ l, 0 ≤ x ∧ x < 256) → plainV (vTxt l) = some l
  | [], _ => plain_nil
  | c :: t, h => by
    have hc := h c (by simp)
    have ih := plain_back t fun x hx => h x (by simp [hx])
    rw [vTxt]
    unfold vByte
    by_cases he : escV c = true
    · rw [if_pos he]
      simp only [List.cons_append, List.nil_append]
      rw [plain_hex, unh_hex _ (by omega) (by omega), unh_hex _ (by omega) (by omega), if_pos (by omega), ih]
      simp
      omega
    · rw [if_neg he]
      unfold escV at he
      simp only [decide_eq_true_eq] at he
      simp only [List.cons_append, List.nil_append]
      rw [plain_bare _ (by omega) (by omega), ih]
      rfl
/-- No byte of a value's text is below 32, or a bracket or star. -/
theorem vTxt_in : ∀ l : List Int, (∀ x ∈ l, 0 ≤ x ∧ x < 256) → ∀ y ∈ vTxt l, 32 ≤ y ∧ ¬ (40 ≤ y ∧ y ≤ 42) ∧ y < 256
  | [], _, y, hy => by cases hy
  | c :: t, h, y, hy => by
    have hc := h c (by simp)
    rw [vTxt] at hy
    rcases List.mem_append.1 hy with hy | hy
    · unfold vByte at hy
      by_cases he : escV c = true
      · rw [if_pos he] at hy
        have h1 := hexD_in (n := c / 16) (by omega) (by omega)
        have h2 := hexD_in (n := c % 16) (by omega) (by omega)
        simp only [List.mem_cons, List.not_mem_nil, or_false] at hy
        omega
      · rw [if_neg he] at hy
        unfold escV at he
        simp only [decide_eq_true_eq] at he
        simp only [List.mem_cons, List.not_mem_nil, or_false] at hy
        omega
    · exact vTxt_in t (fun x hx => h x (by simp [hx])) y hy
theorem vTxt_nil {l : List Int} (h : vTxt l = []) : l = [] := by
  cases l with
  | nil => rfl
  | cons c t =>
    rw [vTxt] at h
    have := List.append_eq_nil_iff.1 h
    have h1 := this.1
    unfold vByte at h1
    split at h1 <;> cases h1
/-- What is read of a text's bytes are bytes. -/
theorem plain_in : ∀ (l v : List Int), (∀ x ∈ l, 0 ≤ x ∧ x < 256) → plainV l = some v → ∀ y ∈ v, 0 ≤ y ∧ y < 256
  | [], v, _, h => by
    rw [plain_nil] at h
    cases h
    simp
  | c :: t, v, hl, h => by
    have hc := hl c (by simp)
    by_cases h0 : c = 0 ∨ (40 ≤ c ∧ c ≤ 42)
    · rw [plain_no t h0] at h; cases h
    · by_cases h2 : c = 92
      · subst h2
        cases t with
        | nil => rw [plain_h0] at h; cases h
        | cons d t =>
          cases t with
          | nil => rw [plain_h1] at h; cases h
          | cons e u =>
            rw [plain_hex] at h
            by_cases hu : unh d < 16 ∧ unh e < 16
            · rw [if_pos hu] at h
              cases hp : plainV u with
              | none => rw [hp] at h; cases h
              | some w =>
                rw [hp] at h
                cases h
                have ih := plain_in u w (fun x hx => hl x (by simp [hx])) hp
                have u0 : 0 ≤ unh d ∧ 0 ≤ unh e := by unfold unh; constructor <;> (split; omega; split; omega; split; omega; omega)
                intro y hy
                rcases List.mem_cons.1 hy with rfl | hy
                · omega
                · exact ih y hy
            · rw [if_neg hu] at h; cases h
      · rw [plain_bare t h0 h2] at h
        cases hp : plainV t with
        | none => rw [hp] at h; cases h
        | some w =>
          rw [hp] at h
          cases h
          have ih := plain_in t w (fun x hx => hl x (by simp [hx])) hp
          intro y hy
          rcases List.mem_cons.1 hy with rfl | hy
          · exact hc
          · exact ih y hy
/-! Cut and parted. -/
theorem cut_at (b : Int) : ∀ (h t : List Int), (∀ x ∈ h, x ≠ b) → cutL b (h ++ b :: t) = some (h, t)
  | [], t, _ => by rw [List.nil_append, cutL, if_pos rfl]
  | c :: h, t, hx => by
    rw [List.cons_append, cutL, if_neg (hx c (by simp)), cut_at b h t fun x hy => hx x (by simp [hy])]
    rfl
theorem cut_none (b : Int) : ∀ (h : List Int), (∀ x ∈ h, x ≠ b) → cutL b h = none
  | [], _ => rfl
  | c :: h, hx => by
    rw [cutL, if_neg (hx c (by simp)), cut_none b h fun x hy => hx x (by simp [hy])]
    rfl
theorem cut_some (b : Int) : ∀ (l h t : List Int), cutL b l = some (h, t) → l = h ++ b :: t ∧ ∀ x ∈ h, x ≠ b
  | [], h, t, e => by cases e
  | c :: l, h, t, e => by
    rw [cutL] at e
    by_cases hc : c = b
    · rw [if_pos hc] at e
      cases e
      exact ⟨by rw [hc]; rfl, by simp⟩
    · rw [if_neg hc] at e
      cases hk : cutL b l with
      | none => rw [hk] at e; cases e
      | some p =>
        rw [hk] at e
        cases e
        obtain ⟨h1, h2⟩ := cut_some b l p.1 p.2 hk
        exact ⟨by rw [List.cons_append, ← h1], fun x hx => by
          rcases List.mem_cons.1 hx with rfl | hx
          · exact hc
          · exact h2 x hx⟩
theorem split_ne (b : Int) (l : List Int) : splitL b l ≠ [] := by
  cases l with
  | nil => simp [splitL]
  | cons c t =>
    rw [splitL]
    split
    · simp
    · split <;> simp
theorem split_none (b : Int) : ∀ (h : List Int), (∀ x ∈ h, x ≠ b) → splitL b h = [h]
  | [], _ => rfl
  | c :: h, hx => by
    rw [splitL, if_neg (hx c (by simp)), split_none b h fun x hy => hx x (by simp [hy])]
theorem split_at (b : Int) : ∀ (h t : List Int), (∀ x ∈ h, x ≠ b) → splitL b (h ++ b :: t) = h :: splitL b t
  | [], t, _ => by rw [List.nil_append, splitL, if_pos rfl]
  | c :: h, t, hx => by
    rw [List.cons_append, splitL, if_neg (hx c (by simp)), split_at b h t fun x hy => hx x (by simp [hy])]
end Go.Proofs.YthbldkkjjjmegaaGreatDoor
/- A filter without kids is read as it was written, plainly. -/
namespace Go.Proofs.YthbldkkjjjmegaaGreatDoor
set_option maxRecDepth 100000
open Go.RowKit

theorem sn_nil : strOfNums [] = ByteArray.empty := rfl
theorem last_no {l : List Int} {c : Int} (h : ∀ x ∈ l, x ≠ c) : ¬ l.getLast? = some c := fun e => h c (List.mem_of_getLast? e) rfl
theorem last_one (l : List Int) (c : Int) : (l ++ [c]).getLast? = some c := by simp
theorem smP_emp {i : ByteArray} {a : List ByteArray} {f : ByteArray} {hi hf : Bool} (h : smP i a f hi hf ByteArray.empty [] ByteArray.empty false false = true) : i = ByteArray.empty ∧ a = [] ∧ f = ByteArray.empty ∧ hi = false ∧ hf = false := by
  unfold smP at h
  exact of_decide_eq_true h
theorem bar_parts {n v i : ByteArray} {a : List ByteArray} {f : ByteArray} {hi hf : Bool} {r : ByteArray} {d bn bv bp br : Bool} (h : barF n v i a f hi hf r d bn bv bp br = true) :
    (bn = true → n = ByteArray.empty) ∧ (bv = true → v = ByteArray.empty) ∧ (br = true → r = ByteArray.empty ∧ d = false) ∧ (bp = true → i = ByteArray.empty ∧ a = [] ∧ f = ByteArray.empty ∧ hi = false ∧ hf = false) := by
  unfold barF at h
  simp only [Bool.and_eq_true, Bool.or_eq_true, Bool.not_eq_true', decide_eq_true_eq] at h
  obtain ⟨h1, h2, h3, h4⟩ := h
  refine ⟨fun e => ?_, fun e => ?_, fun e => ?_, fun e => ?_⟩
  · rcases h1 with h | h
    · rw [e] at h; cases h
    · exact h
  · rcases h2 with h | h
    · rw [e] at h; cases h
    · exact h
  · rcases h3 with h | h
    · rw [e] at h; cases h
    · exact h
  · rcases h4 with h | h
    · rw [e] at h; cases h
    · exact smP_emp h
/-- What a word's bytes are. -/
theorem wrd_in {l : List Int} (h : wrdB l = true) : ∀ x ∈ l, (97 ≤ x ∧ x ≤ 122) ∨ (48 ≤ x ∧ x ≤ 57) ∨ x = 45 := fun x hx => wrdC_in (wrd_all h x hx)
theorem wrd_fst {l : List Int} (h : wrdB l = true) : 97 ≤ l.getD 0 0 ∧ l.getD 0 0 ≤ 122 := by
  unfold wrdB lowB at h
  simp only [Bool.and_eq_true, decide_eq_true_eq] at h
  exact h.2.1
theorem wrd_ne {l : List Int} (h : wrdB l = true) : l ≠ [] := fun e => by have := (wrd_len h).1; rw [e] at this; simp at this
theorem bool_no {c : Int} (h : c ≠ 38 ∧ c ≠ 124 ∧ c ≠ 33) : ¬ 0 ≤ boolK c := by
  unfold boolK
  rw [if_neg h.1, if_neg h.2.1, if_neg h.2.2]
  decide
theorem fst_app {l t : List Int} (h : l ≠ []) : (l ++ t).getD 0 0 = l.getD 0 0 := by
  cases l with
  | nil => exact absurd rfl h
  | cons a b => rfl
theorem nums_in (s : ByteArray) : ∀ y ∈ vTxt (nums s), 32 ≤ y ∧ ¬ (40 ≤ y ∧ y ≤ 42) ∧ y < 256 := vTxt_in (nums s) (nums_bound s)
theorem plain_num (s : ByteArray) : plainV (vTxt (nums s)) = some (nums s) := plain_back (nums s) (nums_bound s)
theorem split_val (s : ByteArray) : splitL 42 (vTxt (nums s)) = [vTxt (nums s)] := split_none 42 _ fun x hx => by have := nums_in s x hx; omega
theorem nums_emp {s : ByteArray} (h : s = ByteArray.empty) : nums s = [] := by rw [h]; rfl
/-- What is asked of each kind. -/
theorem item3 {n v : ByteArray} (hn : wrdB (nums n) = true) : itemP (nums n ++ [61] ++ vTxt (nums v)) = some (.mk 3 n v ByteArray.empty [] ByteArray.empty false false ByteArray.empty false []) := by
  have hw := wrd_in hn
  unfold itemP
  rw [List.append_assoc, List.singleton_append, cut_at 61 (nums n) _ (fun x hx => by have := hw x hx; omega)]
  dsimp only
  rw [if_neg (last_no fun x hx => by have := hw x hx; omega), if_neg (last_no fun x hx => by have := hw x hx; omega), if_neg (last_no fun x hx => by have := hw x hx; omega), if_neg (last_no fun x hx => by have := hw x hx; omega), split_val, if_neg (by simp), plain_num, sml_word (wrd_all hn)]
  unfold itmF
  simp only [Option.map_some, strOfNums_nums]
  rfl
theorem itemx {n v : ByteArray} {c k : Int} (hn : wrdB (nums n) = true) (hc : (c = 62 ∧ k = 5) ∨ (c = 60 ∧ k = 6) ∨ (c = 126 ∧ k = 8)) : itemP (nums n ++ [c, 61] ++ vTxt (nums v)) = some (.mk k n v ByteArray.empty [] ByteArray.empty false false ByteArray.empty false []) := by
  have hw := wrd_in hn
  have e : nums n ++ [c, 61] ++ vTxt (nums v) = (nums n ++ [c]) ++ 61 :: vTxt (nums v) := by simp
  have hi : itmF k (nums n) (nums v) [] false = .mk k n v ByteArray.empty [] ByteArray.empty false false ByteArray.empty false [] := by unfold itmF; rw [strOfNums_nums, strOfNums_nums]; rfl
  unfold itemP
  rw [e, cut_at 61 (nums n ++ [c]) _ (fun x hx => by
    rcases List.mem_append.1 hx with hx | hx
    · have := hw x hx; omega
    · simp at hx; omega)]
  dsimp only
  rw [last_one, List.dropLast_concat, sml_word (wrd_all hn), plain_num]
  rcases hc with ⟨rfl, rfl⟩ | ⟨rfl, rfl⟩ | ⟨rfl, rfl⟩
  · rw [if_pos rfl]; simp only [Option.map_some]; rw [hi]
  · rw [if_neg (by decide), if_pos rfl]; simp only [Option.map_some]; rw [hi]
  · rw [if_neg (by decide), if_neg (by decide), if_pos rfl]; simp only [Option.map_some]; rw [hi]
theorem item7 {n : ByteArray} (hn : wrdB (nums n) = true) : itemP (nums n ++ [61, 42]) = some (.mk 7 n ByteArray.empty ByteArray.empty [] ByteArray.empty false false ByteArray.empty false []) := by
  have hw := wrd_in hn
  unfold itemP
  rw [show nums n ++ [61, 42] = nums n ++ 61 :: [42] from rfl, cut_at 61 (nums n) _ (fun x hx => by have := hw x hx; omega)]
  dsimp only
  rw [if_neg (last_no fun x hx => by have := hw x hx; omega), if_neg (last_no fun x hx => by have := hw x hx; omega), if_neg (last_no fun x hx => by have := hw x hx; omega), if_neg (last_no fun x hx => by have := hw x hx; omega), show splitL 42 [42] = [[], []] from rfl, if_pos (by decide), sml_word (wrd_all hn)]
  unfold starP
  rw [if_pos rfl, strOfNums_nums]
  rfl
theorem split_any (f : ByteArray) : ∀ a : List ByteArray, splitL 42 (anyT a ++ vTxt (nums f)) = a.map (fun x => vTxt (nums x)) ++ [vTxt (nums f)]
  | [] => by rw [anyT, List.nil_append, split_val]; rfl
  | x :: t => by
    rw [anyT, List.append_assoc, List.cons_append, split_at 42 _ _ (fun y hy => by have := nums_in x y hy; omega), split_any f t]
    rfl
theorem mid_back (f : ByteArray) : ∀ a : List ByteArray, (∀ x ∈ a, x.size ≠ 0) → midP (a.map (fun x => vTxt (nums x)) ++ [vTxt (nums f)]) = some (a, nums f)
  | [], _ => by
    rw [List.map_nil, List.nil_append, midP.eq_def]
    dsimp only
    rw [plain_num]
    rfl
  | x :: t, h => by
    have ih := mid_back f t fun y hy => h y (by simp [hy])
    rw [List.map_cons, List.cons_append, midP.eq_def]
    have hx : ¬ nums x = [] := fun e => h x (by simp) (by rw [← nums_length, e]; rfl)
    obtain ⟨y, z, e⟩ : ∃ y z, t.map (fun x => vTxt (nums x)) ++ [vTxt (nums f)] = y :: z := by
      cases t with
      | nil => exact ⟨_, _, rfl⟩
      | cons a b => exact ⟨_, _, rfl⟩
    rw [e] at ih ⊢
    dsimp only
    rw [plain_num]
    dsimp only
    rw [if_neg hx, ih]
    simp only [Option.map_some, strOfNums_nums]
theorem item4 {n i : ByteArray} {a : List ByteArray} {f : ByteArray} {hi hf : Bool} (hn : wrdB (nums n) = true) (hp : okPc i a f hi hf = true) : itemP (nums n ++ 61 :: starT i a f) = some (.mk 4 n ByteArray.empty i a f hi hf ByteArray.empty false []) := by
  have hw := wrd_in hn
  unfold okPc at hp
  simp only [Bool.and_eq_true, decide_eq_true_eq, List.all_eq_true] at hp
  obtain ⟨⟨_, h2, h3, h4⟩, h5⟩ := hp
  have hs : splitL 42 (starT i a f) = vTxt (nums i) :: (a.map (fun x => vTxt (nums x)) ++ [vTxt (nums f)]) := by
    unfold starT
    rw [split_at 42 _ _ (fun y hy => by have := nums_in i y hy; omega), split_any]
  unfold itemP
  rw [cut_at 61 (nums n) _ (fun x hx => by have := hw x hx; omega)]
  dsimp only
  rw [if_neg (last_no fun x hx => by have := hw x hx; omega), if_neg (last_no fun x hx => by have := hw x hx; omega), if_neg (last_no fun x hx => by have := hw x hx; omega), if_neg (last_no fun x hx => by have := hw x hx; omega), hs, if_pos (by simp), sml_word (wrd_all hn)]
  unfold starP
  have hne : ¬ vTxt (nums i) :: (a.map (fun x => vTxt (nums x)) ++ [vTxt (nums f)]) = [[], []] := fun e => by
    injection e with e1 e2
    have i0 := vTxt_nil e1
    have : a = [] := by
      cases a with
      | nil => rfl
      | cons x t =>
        have := congrArg List.length e2
        simp at this
    subst this
    simp at e2
    have f0 := vTxt_nil e2
    have i1 : ¬ 0 < i.size := by rw [← nums_length, i0]; decide
    have f1 : ¬ 0 < f.size := by rw [← nums_length, f0]; decide
    rcases h2 with h | h | h
    · exact i1 (h3.1 h)
    · exact f1 (h4.1 h)
    · exact h rfl
  rw [if_neg hne]
  dsimp only
  rw [plain_num]
  dsimp only
  rw [mid_back f a h5]
  have b1 : (!(nums i).isEmpty) = hi := by
    have hl := nums_length i
    rw [Bool.eq_iff_iff, h3]
    cases hN : nums i with
    | nil => rw [hN] at hl; rw [← hl]; simp
    | cons c t => rw [hN] at hl; rw [← hl]; simp
  have b2 : (!(nums f).isEmpty) = hf := by
    have hl := nums_length f
    rw [Bool.eq_iff_iff, h4]
    cases hN : nums f with
    | nil => rw [hN] at hl; rw [← hl]; simp
    | cons c t => rw [hN] at hl; rw [← hl]; simp
  unfold subF
  simp only [Option.map_some, strOfNums_nums, b1, b2]
  rfl
theorem sml_no {l : List Int} (h : ∀ x ∈ l, ¬ (65 ≤ x ∧ x ≤ 90)) : l.map smlC = l := by
  have : l.map smlC = l.map id := List.map_congr_left fun x hx => by unfold smlC; rw [if_neg (h x hx)]; rfl
  rw [this, List.map_id]
theorem item9 {n v r : ByteArray} {d : Bool} (hn : wrdB (nums n) = true ∨ n = ByteArray.empty) (hr : (wrdB (nums r) = true ∧ ¬ r = dnT) ∨ r = ByteArray.empty) :
    itemP (nums n ++ extT r d ++ vTxt (nums v)) = some (.mk 9 n v ByteArray.empty [] ByteArray.empty false false r d []) := by
  have hw : ∀ x ∈ nums n, (97 ≤ x ∧ x ≤ 122) ∨ (48 ≤ x ∧ x ≤ 57) ∨ x = 45 := by
    rcases hn with h | h
    · exact wrd_in h
    · rw [nums_emp h]; simp
  obtain ⟨D, hD⟩ : ∃ D, D = (if d = true then [58, 100, 110] else [] : List Int) := ⟨_, rfl⟩
  obtain ⟨R, hR⟩ : ∃ R, R = (if r = ⟨#[]⟩ then [] else 58 :: nums r : List Int) := ⟨_, rfl⟩
  have hDi : ∀ x ∈ D, x = 58 ∨ x = 100 ∨ x = 110 := by
    rw [hD]
    cases d
    · simp
    · simp
  have hRi : ∀ x ∈ R, x = 58 ∨ (97 ≤ x ∧ x ≤ 122) ∨ (48 ≤ x ∧ x ≤ 57) ∨ x = 45 := by
    rw [hR]
    rcases hr with ⟨h, _⟩ | h
    · split
      · simp
      · intro x hx
        rcases List.mem_cons.1 hx with rfl | hx
        · exact .inl rfl
        · exact .inr (wrd_in h x hx)
    · rw [if_pos (show r = ⟨#[]⟩ from h)]; simp
  have e : nums n ++ extT r d ++ vTxt (nums v) = (nums n ++ (D ++ R) ++ [58]) ++ 61 :: vTxt (nums v) := by
    unfold extT
    rw [← hD, ← hR]
    simp
  unfold itemP
  rw [e, cut_at 61 _ _ (fun x hx => by
    simp only [List.mem_append, List.mem_singleton] at hx
    rcases hx with (hx | hx | hx) | hx
    · have := hw x hx; omega
    · have := hDi x hx; omega
    · have := hRi x hx; omega
    · omega)]
  dsimp only
  rw [last_one, if_neg (by decide), if_neg (by decide), if_neg (by decide), if_pos rfl, List.dropLast_concat, sml_no (fun x hx => by
    simp only [List.mem_append] at hx
    rcases hx with hx | hx | hx
    · have := hw x hx; omega
    · have := hDi x hx; omega
    · have := hRi x hx; omega)]
  have hx : extP (splitL 58 (nums n ++ (D ++ R))) = some (nums n, d, nums r) := by
    have n58 : ∀ x ∈ nums n, x ≠ 58 := fun x hx => by have := hw x hx; omega
    rw [hD, hR]
    by_cases h0 : r = ⟨#[]⟩
    · rw [if_pos h0, List.append_nil, nums_emp h0]
      cases d
      · rw [if_neg (by decide), List.append_nil, split_none 58 _ n58]; rfl
      · rw [if_pos rfl, split_at 58 _ _ n58, split_none 58 [100, 110] (by decide)]
        unfold extP
        dsimp only
        rw [if_pos rfl]
    · rw [if_neg h0]
      rcases hr with ⟨h, hdn⟩ | h
      · have r58 : ∀ x ∈ nums r, x ≠ 58 := fun x hx => by have := wrd_in h x hx; omega
        have rdn : ¬ nums r = [100, 110] := fun e2 => hdn (by rw [← strOfNums_nums r, e2]; rfl)
        cases d
        · rw [if_neg (by decide), List.nil_append, split_at 58 _ _ n58, split_none 58 _ r58]
          unfold extP
          dsimp only
          rw [if_neg rdn, if_neg (wrd_ne h)]
        · rw [if_pos rfl, show nums n ++ ([58, 100, 110] ++ 58 :: nums r) = nums n ++ 58 :: ([100, 110] ++ 58 :: nums r) from rfl, split_at 58 _ _ n58, split_at 58 [100, 110] _ (by decide), split_none 58 _ r58]
          unfold extP
          dsimp only
          rw [if_pos ⟨rfl, wrd_ne h⟩]
      · exact absurd h h0
  rw [hx]
  dsimp only
  rw [plain_num]
  unfold itmF
  simp only [Option.map_some, strOfNums_nums]
  rfl
end Go.Proofs.YthbldkkjjjmegaaGreatDoor
