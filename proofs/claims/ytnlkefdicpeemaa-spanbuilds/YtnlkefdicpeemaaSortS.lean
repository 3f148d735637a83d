/- slices.Sort of runes, out of pdqsort's contract; pdqsort of at most twelve. -/
import Derived.Test.YtnlkefdicpeemaaIns
import Derived.Test.YtnlkefdicpeemaaBits
namespace Go.Proofs.Ytnlkefdicpeemaa
open Go.RowKit
open Go.Sort (Holds ltInt swp insertionSort PermIn SortedIn)

/-- What pdqsort must do: from a up to b the runes are put in order. -/
def PdqDoes (d : Array Int) (a b : Nat) : Prop :=
  ∀ (limit blk off cap : Nat) (w0 w : World), limit ≤ 16 → Rw w0 blk off d w →
    Calls Try.prog 35 #[.slice (some ⟨blk, off, none⟩) d.size cap, .int .i64 a, .int .i64 b, .int .i64 limit] w fun e w' => e = .returned (.tuple #[]) ∧ ∃ d', Rw w0 blk off d' w' ∧ PermIn a b d d' ∧ SortedIn ltInt a b d'
/-- What slices.Sort must do. -/
def SortDoes (d : Array Int) : Prop :=
  ∀ (blk off cap : Nat) (w0 w : World), Rw w0 blk off d w →
    Calls Try.prog 32 #[.slice (some ⟨blk, off, none⟩) d.size cap] w fun e w' => e = .returned (.tuple #[]) ∧ ∃ d', Rw w0 blk off d' w' ∧ PermIn 0 d.size d d' ∧ SortedIn ltInt 0 d.size d'

set_option maxHeartbeats 400000 in
theorem sort_of_pdq (d : Array Int) (hsz : d.size ≤ 60000) (hp : PdqDoes d 0 d.size) : SortDoes d := by
  intro blk off cap w0 w hR
  have HP := hide hp
  have RR := hide hR
  have hl := fun W => len_any d.size W (by omega)
  have HL := hide hl
  clear hp hR hl
  have hm : (d.size : Int) % 18446744073709551616 = d.size := by omega
  generalize hsn : d.size = sz at *
  have hsz9 : sz ≤ 60000 := hsz
  clear hsz
  have SN := hide hsn
  clear hsn
  have hz : (sz : Int) < 18446744073709551616 := by omega
  clear hsz9
  go_enter Try.func32, Try.ntmps32
  go_wp2_with (first
    | (go_at_call 36; refine (unhide HL _).mono ?_; rintro e w' ⟨k, rfl, h1, h2, rfl⟩)
    | (go_at_call 35; have hq := unhide HP k blk off cap w0 _ h1 (unhide RR); rw [unhide SN] at hq; refine hq.mono ?_; rintro e w' ⟨rfl, hd⟩))
  go_end0
  exact ⟨rfl, hd⟩

set_option maxHeartbeats 800000 in
theorem pdq_small (d : Array Int) (a b : Nat) (hab : a ≤ b) (hb : b ≤ d.size) (h12 : b - a ≤ 12) (hsz : d.size ≤ 60000) : PdqDoes d a b := by
  intro limit blk off cap w0 w hlim hR
  have hi := fun w hR => ins_any blk off cap a b d w0 w hR hab hb (by omega)
  have hs := Go.Sort.insertionSort_holds (lt := ltInt) Go.Sort.swo_ltInt d a b hab hb
  have HI := hide hi
  have HS := hide hs
  have RR := hide hR
  clear hi hs hR
  have h1 : (b : Int) - (a : Int) ≤ 12 := by omega
  have h2 : IntKind.i64.wrap ((b : Int) - (a : Int)) = (b : Int) - (a : Int) := by rw [IntKind.wrap_i64]; omega
  generalize d.size = sz at *
  clear hsz hb
  go_enter Try.func35, Try.ntmps35
  go_wp2
  refine wp_loop_rounds 1 ?_
  rw [rounds_succ]
  go_wp2_with (go_at_call 37; refine (unhide HI _ (unhide RR)).mono ?_; rintro e w' ⟨rfl, hr⟩)
  try simp only [Exit.inBlock, Exit.then]
  refine bodyPost_ret (results_none rfl _ _ _) rfl ?_
  exact ⟨rfl, _, hr, (unhide HS).1, (unhide HS).2⟩
end Go.Proofs.Ytnlkefdicpeemaa
