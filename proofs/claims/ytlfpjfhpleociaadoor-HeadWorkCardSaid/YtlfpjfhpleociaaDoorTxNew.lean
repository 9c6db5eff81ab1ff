/-
  Numbers written by package compact as new memory; rows that are new grow. No conditions beyond those that each states.
-/
import Derived.Test.YtlfpjfhpleociaaDoorTxBox
import Derived.Test.YtlfpjfhpleociaaDoorCmpNum
import Derived.Test.YtlfpjfhpleociaaDoorRefBuf
namespace Go.Proofs.YtlfpjfhpleociaaDoor.Sha
open Go Go.RowKit
/-- New memory that reads as bs is answered. -/
def NewPost (w : World) (bs : List UInt8) (e : Ending) (w' : World) : Prop := ∃ sp n cap, e = .returned (.slice sp n cap) ∧ n = bs.length ∧ CopyB w w' (.slice sp n cap) bs
theorem newB_copy {w w' : World} {k c : Nat} {bs : List UInt8} (h : NewB w w' k c bs) : k = bs.length ∧ CopyB w w' (.slice (some ⟨w.heap.size, 0, none⟩) k c) bs := by
  have hl := own_len h.1
  refine ⟨hl, ?_, h.2⟩
  rw [← hl]
  exact h.1
theorem four_new (bs : List UInt8) (v : Value) (x : Nat) (w : World) (hs : SrcB w v bs) (hn : bs.length ≤ 70368744177664) (hx : x ≤ 4294967295) :
    Calls Tryd.prog 17 #[v, .int .u32 (x : Int)] w (NewPost w (bs ++ leB x 4)) := by
  obtain ⟨sp, cap, rfl⟩ := hs.shape
  refine (four_any bs sp bs.length cap x w hs hn hx).mono ?_
  rintro e w' ⟨rfl, h⟩
  exact ⟨_, _, _, rfl, newB_copy h⟩
theorem CopyB.src {w w' : World} {v : Value} {bs : List UInt8} (h : CopyB w w' v bs) : SrcB w' v bs := src_own h.1
theorem CopyB.keep {w w1 w2 : World} {v : Value} {bs : List UInt8} (h : CopyB w w1 v bs) (hb : Below w1.heap.size w1 w2) : CopyB w w2 v bs := ⟨own_kept h.1 hb, h.2.trans (hb.mono h.2.size)⟩
theorem CopyB.app {w w1 w2 : World} {v v' : Value} {bs cs : List UInt8} (h : CopyB w w1 v bs) (ho : w2.ownsRow w.heap.size 5 1 v' (bs.length + cs.length) (bs.map bV ++ cs.map bV)) (hg : w1.grownBy w2 v.ownBlock) : CopyB w w2 v' (bs ++ cs) :=
  ⟨by rw [List.length_append, List.map_append]; exact ho, own_grown h.2 (Nat.le_refl _) h.2.size h.1 hg⟩
theorem CopyB.start {w0 w w' : World} {v : Value} {bs : List UInt8} (h : CopyB w w' v bs) (hb : Below w0.heap.size w0 w) : CopyB w0 w' v bs := ⟨own_base h.1 hb.size, hb.trans (h.2.mono hb.size)⟩
theorem nil_src (w : World) : SrcB w (.slice none 0 0) [] := .inl ⟨_, _, rfl, rfl⟩
end Go.Proofs.YtlfpjfhpleociaaDoor.Sha
