/-
  THE CIRCUITS of the law AigWrong, and how they lie in memory.
-/
import Derived.Test.YtppaifckiaaffaaNormGood
import Derived.Test.YtppaifckiaaffaaAigTwo
import Derived.Great.Walk
namespace Go.Proofs.Ytppaifckiaaffaa
open Go.RowKit

theorem foldl_alloc (os : List Obj) : ∀ (w : World), (os.foldl World.alloc w).heap.size = w.heap.size + os.length ∧ (∀ i o, os[i]? = some o → (os.foldl World.alloc w).heap[w.heap.size + i]? = some o) ∧ Below w.heap.size w (os.foldl World.alloc w) := by
  induction os with
  | nil => intro w; exact ⟨rfl, fun i o h => by simp at h, Below.refl _ _⟩
  | cons o os ih =>
    intro w
    obtain ⟨h1, h2, h3⟩ := ih (w.alloc o)
    have e : (w.alloc o).heap.size = w.heap.size + 1 := by simp
    refine ⟨?_, fun i x hx => ?_, belowThen (below_alloc w o) h3⟩
    · rw [List.foldl_cons, h1, e, List.length_cons]; omega
    · rw [List.foldl_cons]
      cases i with
      | zero =>
        simp at hx
        subst hx
        exact (h3.block w.heap.size (by rw [e]; exact Nat.lt_succ_self _)).trans (heap_alloc_new w o)
      | succ i =>
        have := h2 i x (by simpa using hx)
        rw [e] at this
        rw [show w.heap.size + (i + 1) = w.heap.size + 1 + i by omega]
        exact this

theorem row_blk {w : World} {b : Nat} {t : TypeId} {arr : Array Value} {cs : List Value} (h : w.heap[b]? = some (.cells arr t (0, 0))) (e : arr = cs.toArray) : RowC w (some ⟨b, 0, none⟩) cs := by
  subst e
  refine .inr ⟨_, rfl, fun j u hu => ?_⟩
  rw [add_plain, Nat.zero_add, cell_of_row _ _ j _ _ (0, 0) h]
  simpa using hu

def wrObjs : List Obj := [.cells #[.int .i64 2] 3, .cells #[.int .i64 3] 3, .cells #[.int .i64 0] 3, .cells #[.int .i64 4] 3, .cells #[.int .i64 (-2)] 3, .cells #[.int .i64 2, .int .i64 0, .int .i64 3] 43, .cells #[.int .i64 2, .int .i64 5, .int .i64 0] 43, .cells #[.int .i64 4] 3, .cells #[.int .i64 (-1)] 3, .cells #[.int .i64 5, .int .i64 2, .int .i64 2] 46, .cells #[.int .u8 111, .int .i64 0, .string ⟨#[97]⟩] 49, .cells #[.int .u8 105, .int .i64 1, .string ⟨#[97]⟩] 49, .cells #[.int .u8 105, .int .i64 0, .string ⟨#[]⟩] 49, .cells #[.int .u8 105, .int .i64 0, .string ⟨#[97, 10, 98]⟩] 49, .cells #[.int .u8 120, .int .i64 0, .string ⟨#[97]⟩] 49, .cells #[.int .i64 2, .int .i64 2] 3, .cells #[.int .i64 2, .int .i64 0, .int .i64 0] 43, .cells #[.int .i64 2, .int .i64 1, .int .i64 1] 46, .cells #[.int .i64 2, .int .i64 4] 3, .cells #[.int .u8 105, .int .i64 0, .string ⟨#[97]⟩, .int .u8 105, .int .i64 0, .string ⟨#[98]⟩] 49, .cells #[.int .i64 4] 3, .cells #[.int .i64 2, .int .i64 5, .int .i64 0] 43, .cells #[.int .i64 4, .int .i64 6, .int .i64 1] 46, .cells #[.int .i64 4, .int .i64 6, .int .i64 1, .int .i64 6, .int .i64 5, .int .i64 1] 46, .cells #[.int .u8 105, .int .i64 0, .string ⟨#[97]⟩] 49]
def wrCV (B : Nat) : Nat → CV
  | 0 => ⟨(-1), none, 0, 0, none, 0, 0, none, 0, 0, none, 0, 0, none, 0, 0, none, 0, 0, none, 0, 0⟩
  | 1 => ⟨1, some ⟨B + 1, 0, none⟩, 1, 1, none, 0, 0, none, 0, 0, none, 0, 0, none, 0, 0, none, 0, 0, none, 0, 0⟩
  | 2 => ⟨1, some ⟨B + 2, 0, none⟩, 1, 1, none, 0, 0, none, 0, 0, none, 0, 0, none, 0, 0, none, 0, 0, none, 0, 0⟩
  | 3 => ⟨1, some ⟨B + 3, 0, none⟩, 1, 1, none, 0, 0, none, 0, 0, none, 0, 0, none, 0, 0, none, 0, 0, none, 0, 0⟩
  | 4 => ⟨1, some ⟨B + 4, 0, none⟩, 1, 1, none, 0, 0, none, 0, 0, none, 0, 0, none, 0, 0, none, 0, 0, none, 0, 0⟩
  | 5 => ⟨1, none, 0, 0, some ⟨B + 5, 0, none⟩, 1, 1, none, 0, 0, none, 0, 0, none, 0, 0, none, 0, 0, none, 0, 0⟩
  | 6 => ⟨1, none, 0, 0, some ⟨B + 6, 0, none⟩, 1, 1, none, 0, 0, none, 0, 0, none, 0, 0, none, 0, 0, none, 0, 0⟩
  | 7 => ⟨1, some ⟨B, 0, none⟩, 1, 1, none, 0, 0, some ⟨B + 7, 0, none⟩, 1, 1, none, 0, 0, none, 0, 0, none, 0, 0, none, 0, 0⟩
  | 8 => ⟨1, some ⟨B, 0, none⟩, 1, 1, none, 0, 0, none, 0, 0, some ⟨B + 8, 0, none⟩, 1, 1, none, 0, 0, none, 0, 0, none, 0, 0⟩
  | 9 => ⟨2, some ⟨B, 0, none⟩, 1, 1, none, 0, 0, none, 0, 0, none, 0, 0, none, 0, 0, some ⟨B + 9, 0, none⟩, 1, 1, none, 0, 0⟩
  | 10 => ⟨1, some ⟨B, 0, none⟩, 1, 1, none, 0, 0, none, 0, 0, none, 0, 0, none, 0, 0, none, 0, 0, some ⟨B + 10, 0, none⟩, 1, 1⟩
  | 11 => ⟨1, some ⟨B, 0, none⟩, 1, 1, none, 0, 0, none, 0, 0, none, 0, 0, none, 0, 0, none, 0, 0, some ⟨B + 11, 0, none⟩, 1, 1⟩
  | 12 => ⟨1, some ⟨B, 0, none⟩, 1, 1, none, 0, 0, none, 0, 0, none, 0, 0, none, 0, 0, none, 0, 0, some ⟨B + 12, 0, none⟩, 1, 1⟩
  | 13 => ⟨1, some ⟨B, 0, none⟩, 1, 1, none, 0, 0, none, 0, 0, none, 0, 0, none, 0, 0, none, 0, 0, some ⟨B + 13, 0, none⟩, 1, 1⟩
  | 14 => ⟨1, some ⟨B, 0, none⟩, 1, 1, none, 0, 0, none, 0, 0, none, 0, 0, none, 0, 0, none, 0, 0, some ⟨B + 14, 0, none⟩, 1, 1⟩
  | 15 => ⟨1, some ⟨B + 15, 0, none⟩, 2, 2, none, 0, 0, none, 0, 0, none, 0, 0, none, 0, 0, none, 0, 0, none, 0, 0⟩
  | 16 => ⟨1, some ⟨B, 0, none⟩, 1, 1, some ⟨B + 16, 0, none⟩, 1, 1, none, 0, 0, none, 0, 0, none, 0, 0, none, 0, 0, none, 0, 0⟩
  | 17 => ⟨2, some ⟨B, 0, none⟩, 1, 1, none, 0, 0, none, 0, 0, none, 0, 0, none, 0, 0, some ⟨B + 17, 0, none⟩, 1, 1, none, 0, 0⟩
  | 18 => ⟨2, some ⟨B + 18, 0, none⟩, 2, 2, none, 0, 0, none, 0, 0, none, 0, 0, none, 0, 0, none, 0, 0, some ⟨B + 19, 0, none⟩, 2, 2⟩
  | 19 => ⟨2, some ⟨B, 0, none⟩, 1, 1, none, 0, 0, some ⟨B + 20, 0, none⟩, 1, 1, none, 0, 0, none, 0, 0, none, 0, 0, none, 0, 0⟩
  | 20 => ⟨2, none, 0, 0, some ⟨B + 21, 0, none⟩, 1, 1, none, 0, 0, none, 0, 0, none, 0, 0, none, 0, 0, none, 0, 0⟩
  | 21 => ⟨3, some ⟨B, 0, none⟩, 1, 1, none, 0, 0, none, 0, 0, none, 0, 0, none, 0, 0, some ⟨B + 22, 0, none⟩, 1, 1, none, 0, 0⟩
  | 22 => ⟨3, some ⟨B, 0, none⟩, 1, 1, none, 0, 0, none, 0, 0, none, 0, 0, none, 0, 0, some ⟨B + 23, 0, none⟩, 2, 2, none, 0, 0⟩
  | _ => ⟨0, none, 0, 0, none, 0, 0, none, 0, 0, none, 0, 0, none, 0, 0, none, 0, 0, some ⟨B + 24, 0, none⟩, 1, 1⟩
def wrC : Nat → Circ
  | 0 => ⟨(-1), [], [], [], [], [], [], []⟩
  | 1 => ⟨1, [3], [], [], [], [], [], []⟩
  | 2 => ⟨1, [0], [], [], [], [], [], []⟩
  | 3 => ⟨1, [4], [], [], [], [], [], []⟩
  | 4 => ⟨1, [(-2)], [], [], [], [], [], []⟩
  | 5 => ⟨1, [], [(2, 0, 3)], [], [], [], [], []⟩
  | 6 => ⟨1, [], [(2, 5, 0)], [], [], [], [], []⟩
  | 7 => ⟨1, [2], [], [4], [], [], [], []⟩
  | 8 => ⟨1, [2], [], [], [(-1)], [], [], []⟩
  | 9 => ⟨2, [2], [], [], [], [], [(5, 2, 2)], []⟩
  | 10 => ⟨1, [2], [], [], [], [], [], [(111, 0, ⟨#[97]⟩)]⟩
  | 11 => ⟨1, [2], [], [], [], [], [], [(105, 1, ⟨#[97]⟩)]⟩
  | 12 => ⟨1, [2], [], [], [], [], [], [(105, 0, ⟨#[]⟩)]⟩
  | 13 => ⟨1, [2], [], [], [], [], [], [(105, 0, ⟨#[97, 10, 98]⟩)]⟩
  | 14 => ⟨1, [2], [], [], [], [], [], [(120, 0, ⟨#[97]⟩)]⟩
  | 15 => ⟨1, [2, 2], [], [], [], [], [], []⟩
  | 16 => ⟨1, [2], [(2, 0, 0)], [], [], [], [], []⟩
  | 17 => ⟨2, [2], [], [], [], [], [(2, 1, 1)], []⟩
  | 18 => ⟨2, [2, 4], [], [], [], [], [], [(105, 0, ⟨#[97]⟩), (105, 0, ⟨#[98]⟩)]⟩
  | 19 => ⟨2, [2], [], [4], [], [], [], []⟩
  | 20 => ⟨2, [], [(2, 5, 0)], [], [], [], [], []⟩
  | 21 => ⟨3, [2], [], [], [], [], [(4, 6, 1)], []⟩
  | 22 => ⟨3, [2], [], [], [], [], [(4, 6, 1), (6, 5, 1)], []⟩
  | _ => ⟨0, [], [], [], [], [], [], [(105, 0, ⟨#[97]⟩)]⟩
def wrWant : List Int := [1, 1, 1, 1, 1, 1, 1, 1, 1, 1, 1, 1, 1, 1, 1, 10, 10, 10, 10, 8, 8, 8, 9, 3]
theorem wr_check : ∀ k, k < 24 → (wrC k).checkI = atP wrWant k ∧ (wrC k).checkI ≠ 0 := by decide +kernel

theorem wr_holds {W : World} {B : Nat} (hb : ∀ i o, wrObjs[i]? = some o → W.heap[B + i]? = some o) : ∀ k, k < 24 → Holds W (wrCV B k) (wrC k)
  | 0, _ => ⟨rfl, .inl ⟨rfl, rfl⟩, rfl, fun _ => rfl, .inl ⟨rfl, rfl⟩, rfl, fun _ => rfl, .inl ⟨rfl, rfl⟩, rfl, fun _ => rfl, .inl ⟨rfl, rfl⟩, rfl, fun _ => rfl, .inl ⟨rfl, rfl⟩, rfl, fun _ => rfl, .inl ⟨rfl, rfl⟩, rfl, fun _ => rfl, .inl ⟨rfl, rfl⟩, rfl, fun _ => rfl⟩
  | 1, _ => ⟨rfl, rowK_of_C (row_blk (cs := List.map (Value.int .i64) [3]) (hb 1 _ rfl) rfl), rfl, (fun e => by cases e), .inl ⟨rfl, rfl⟩, rfl, fun _ => rfl, .inl ⟨rfl, rfl⟩, rfl, fun _ => rfl, .inl ⟨rfl, rfl⟩, rfl, fun _ => rfl, .inl ⟨rfl, rfl⟩, rfl, fun _ => rfl, .inl ⟨rfl, rfl⟩, rfl, fun _ => rfl, .inl ⟨rfl, rfl⟩, rfl, fun _ => rfl⟩
  | 2, _ => ⟨rfl, rowK_of_C (row_blk (cs := List.map (Value.int .i64) [0]) (hb 2 _ rfl) rfl), rfl, (fun e => by cases e), .inl ⟨rfl, rfl⟩, rfl, fun _ => rfl, .inl ⟨rfl, rfl⟩, rfl, fun _ => rfl, .inl ⟨rfl, rfl⟩, rfl, fun _ => rfl, .inl ⟨rfl, rfl⟩, rfl, fun _ => rfl, .inl ⟨rfl, rfl⟩, rfl, fun _ => rfl, .inl ⟨rfl, rfl⟩, rfl, fun _ => rfl⟩
  | 3, _ => ⟨rfl, rowK_of_C (row_blk (cs := List.map (Value.int .i64) [4]) (hb 3 _ rfl) rfl), rfl, (fun e => by cases e), .inl ⟨rfl, rfl⟩, rfl, fun _ => rfl, .inl ⟨rfl, rfl⟩, rfl, fun _ => rfl, .inl ⟨rfl, rfl⟩, rfl, fun _ => rfl, .inl ⟨rfl, rfl⟩, rfl, fun _ => rfl, .inl ⟨rfl, rfl⟩, rfl, fun _ => rfl, .inl ⟨rfl, rfl⟩, rfl, fun _ => rfl⟩
  | 4, _ => ⟨rfl, rowK_of_C (row_blk (cs := List.map (Value.int .i64) [(-2)]) (hb 4 _ rfl) rfl), rfl, (fun e => by cases e), .inl ⟨rfl, rfl⟩, rfl, fun _ => rfl, .inl ⟨rfl, rfl⟩, rfl, fun _ => rfl, .inl ⟨rfl, rfl⟩, rfl, fun _ => rfl, .inl ⟨rfl, rfl⟩, rfl, fun _ => rfl, .inl ⟨rfl, rfl⟩, rfl, fun _ => rfl, .inl ⟨rfl, rfl⟩, rfl, fun _ => rfl⟩
  | 5, _ => ⟨rfl, .inl ⟨rfl, rfl⟩, rfl, fun _ => rfl, row_blk (cs := cellsT [(2, 0, 3)]) (hb 5 _ rfl) rfl, rfl, (fun e => by cases e), .inl ⟨rfl, rfl⟩, rfl, fun _ => rfl, .inl ⟨rfl, rfl⟩, rfl, fun _ => rfl, .inl ⟨rfl, rfl⟩, rfl, fun _ => rfl, .inl ⟨rfl, rfl⟩, rfl, fun _ => rfl, .inl ⟨rfl, rfl⟩, rfl, fun _ => rfl⟩
  | 6, _ => ⟨rfl, .inl ⟨rfl, rfl⟩, rfl, fun _ => rfl, row_blk (cs := cellsT [(2, 5, 0)]) (hb 6 _ rfl) rfl, rfl, (fun e => by cases e), .inl ⟨rfl, rfl⟩, rfl, fun _ => rfl, .inl ⟨rfl, rfl⟩, rfl, fun _ => rfl, .inl ⟨rfl, rfl⟩, rfl, fun _ => rfl, .inl ⟨rfl, rfl⟩, rfl, fun _ => rfl, .inl ⟨rfl, rfl⟩, rfl, fun _ => rfl⟩
  | 7, _ => ⟨rfl, rowK_of_C (row_blk (cs := List.map (Value.int .i64) [2]) (hb 0 _ rfl) rfl), rfl, (fun e => by cases e), .inl ⟨rfl, rfl⟩, rfl, fun _ => rfl, rowK_of_C (row_blk (cs := List.map (Value.int .i64) [4]) (hb 7 _ rfl) rfl), rfl, (fun e => by cases e), .inl ⟨rfl, rfl⟩, rfl, fun _ => rfl, .inl ⟨rfl, rfl⟩, rfl, fun _ => rfl, .inl ⟨rfl, rfl⟩, rfl, fun _ => rfl, .inl ⟨rfl, rfl⟩, rfl, fun _ => rfl⟩
  | 8, _ => ⟨rfl, rowK_of_C (row_blk (cs := List.map (Value.int .i64) [2]) (hb 0 _ rfl) rfl), rfl, (fun e => by cases e), .inl ⟨rfl, rfl⟩, rfl, fun _ => rfl, .inl ⟨rfl, rfl⟩, rfl, fun _ => rfl, rowK_of_C (row_blk (cs := List.map (Value.int .i64) [(-1)]) (hb 8 _ rfl) rfl), rfl, (fun e => by cases e), .inl ⟨rfl, rfl⟩, rfl, fun _ => rfl, .inl ⟨rfl, rfl⟩, rfl, fun _ => rfl, .inl ⟨rfl, rfl⟩, rfl, fun _ => rfl⟩
  | 9, _ => ⟨rfl, rowK_of_C (row_blk (cs := List.map (Value.int .i64) [2]) (hb 0 _ rfl) rfl), rfl, (fun e => by cases e), .inl ⟨rfl, rfl⟩, rfl, fun _ => rfl, .inl ⟨rfl, rfl⟩, rfl, fun _ => rfl, .inl ⟨rfl, rfl⟩, rfl, fun _ => rfl, .inl ⟨rfl, rfl⟩, rfl, fun _ => rfl, row_blk (cs := cellsT [(5, 2, 2)]) (hb 9 _ rfl) rfl, rfl, (fun e => by cases e), .inl ⟨rfl, rfl⟩, rfl, fun _ => rfl⟩
  | 10, _ => ⟨rfl, rowK_of_C (row_blk (cs := List.map (Value.int .i64) [2]) (hb 0 _ rfl) rfl), rfl, (fun e => by cases e), .inl ⟨rfl, rfl⟩, rfl, fun _ => rfl, .inl ⟨rfl, rfl⟩, rfl, fun _ => rfl, .inl ⟨rfl, rfl⟩, rfl, fun _ => rfl, .inl ⟨rfl, rfl⟩, rfl, fun _ => rfl, .inl ⟨rfl, rfl⟩, rfl, fun _ => rfl, row_blk (cs := cellsS [(111, 0, ⟨#[97]⟩)]) (hb 10 _ rfl) rfl, rfl, (fun e => by cases e)⟩
  | 11, _ => ⟨rfl, rowK_of_C (row_blk (cs := List.map (Value.int .i64) [2]) (hb 0 _ rfl) rfl), rfl, (fun e => by cases e), .inl ⟨rfl, rfl⟩, rfl, fun _ => rfl, .inl ⟨rfl, rfl⟩, rfl, fun _ => rfl, .inl ⟨rfl, rfl⟩, rfl, fun _ => rfl, .inl ⟨rfl, rfl⟩, rfl, fun _ => rfl, .inl ⟨rfl, rfl⟩, rfl, fun _ => rfl, row_blk (cs := cellsS [(105, 1, ⟨#[97]⟩)]) (hb 11 _ rfl) rfl, rfl, (fun e => by cases e)⟩
  | 12, _ => ⟨rfl, rowK_of_C (row_blk (cs := List.map (Value.int .i64) [2]) (hb 0 _ rfl) rfl), rfl, (fun e => by cases e), .inl ⟨rfl, rfl⟩, rfl, fun _ => rfl, .inl ⟨rfl, rfl⟩, rfl, fun _ => rfl, .inl ⟨rfl, rfl⟩, rfl, fun _ => rfl, .inl ⟨rfl, rfl⟩, rfl, fun _ => rfl, .inl ⟨rfl, rfl⟩, rfl, fun _ => rfl, row_blk (cs := cellsS [(105, 0, ⟨#[]⟩)]) (hb 12 _ rfl) rfl, rfl, (fun e => by cases e)⟩
  | 13, _ => ⟨rfl, rowK_of_C (row_blk (cs := List.map (Value.int .i64) [2]) (hb 0 _ rfl) rfl), rfl, (fun e => by cases e), .inl ⟨rfl, rfl⟩, rfl, fun _ => rfl, .inl ⟨rfl, rfl⟩, rfl, fun _ => rfl, .inl ⟨rfl, rfl⟩, rfl, fun _ => rfl, .inl ⟨rfl, rfl⟩, rfl, fun _ => rfl, .inl ⟨rfl, rfl⟩, rfl, fun _ => rfl, row_blk (cs := cellsS [(105, 0, ⟨#[97, 10, 98]⟩)]) (hb 13 _ rfl) rfl, rfl, (fun e => by cases e)⟩
  | 14, _ => ⟨rfl, rowK_of_C (row_blk (cs := List.map (Value.int .i64) [2]) (hb 0 _ rfl) rfl), rfl, (fun e => by cases e), .inl ⟨rfl, rfl⟩, rfl, fun _ => rfl, .inl ⟨rfl, rfl⟩, rfl, fun _ => rfl, .inl ⟨rfl, rfl⟩, rfl, fun _ => rfl, .inl ⟨rfl, rfl⟩, rfl, fun _ => rfl, .inl ⟨rfl, rfl⟩, rfl, fun _ => rfl, row_blk (cs := cellsS [(120, 0, ⟨#[97]⟩)]) (hb 14 _ rfl) rfl, rfl, (fun e => by cases e)⟩
  | 15, _ => ⟨rfl, rowK_of_C (row_blk (cs := List.map (Value.int .i64) [2, 2]) (hb 15 _ rfl) rfl), rfl, (fun e => by cases e), .inl ⟨rfl, rfl⟩, rfl, fun _ => rfl, .inl ⟨rfl, rfl⟩, rfl, fun _ => rfl, .inl ⟨rfl, rfl⟩, rfl, fun _ => rfl, .inl ⟨rfl, rfl⟩, rfl, fun _ => rfl, .inl ⟨rfl, rfl⟩, rfl, fun _ => rfl, .inl ⟨rfl, rfl⟩, rfl, fun _ => rfl⟩
  | 16, _ => ⟨rfl, rowK_of_C (row_blk (cs := List.map (Value.int .i64) [2]) (hb 0 _ rfl) rfl), rfl, (fun e => by cases e), row_blk (cs := cellsT [(2, 0, 0)]) (hb 16 _ rfl) rfl, rfl, (fun e => by cases e), .inl ⟨rfl, rfl⟩, rfl, fun _ => rfl, .inl ⟨rfl, rfl⟩, rfl, fun _ => rfl, .inl ⟨rfl, rfl⟩, rfl, fun _ => rfl, .inl ⟨rfl, rfl⟩, rfl, fun _ => rfl, .inl ⟨rfl, rfl⟩, rfl, fun _ => rfl⟩
  | 17, _ => ⟨rfl, rowK_of_C (row_blk (cs := List.map (Value.int .i64) [2]) (hb 0 _ rfl) rfl), rfl, (fun e => by cases e), .inl ⟨rfl, rfl⟩, rfl, fun _ => rfl, .inl ⟨rfl, rfl⟩, rfl, fun _ => rfl, .inl ⟨rfl, rfl⟩, rfl, fun _ => rfl, .inl ⟨rfl, rfl⟩, rfl, fun _ => rfl, row_blk (cs := cellsT [(2, 1, 1)]) (hb 17 _ rfl) rfl, rfl, (fun e => by cases e), .inl ⟨rfl, rfl⟩, rfl, fun _ => rfl⟩
  | 18, _ => ⟨rfl, rowK_of_C (row_blk (cs := List.map (Value.int .i64) [2, 4]) (hb 18 _ rfl) rfl), rfl, (fun e => by cases e), .inl ⟨rfl, rfl⟩, rfl, fun _ => rfl, .inl ⟨rfl, rfl⟩, rfl, fun _ => rfl, .inl ⟨rfl, rfl⟩, rfl, fun _ => rfl, .inl ⟨rfl, rfl⟩, rfl, fun _ => rfl, .inl ⟨rfl, rfl⟩, rfl, fun _ => rfl, row_blk (cs := cellsS [(105, 0, ⟨#[97]⟩), (105, 0, ⟨#[98]⟩)]) (hb 19 _ rfl) rfl, rfl, (fun e => by cases e)⟩
  | 19, _ => ⟨rfl, rowK_of_C (row_blk (cs := List.map (Value.int .i64) [2]) (hb 0 _ rfl) rfl), rfl, (fun e => by cases e), .inl ⟨rfl, rfl⟩, rfl, fun _ => rfl, rowK_of_C (row_blk (cs := List.map (Value.int .i64) [4]) (hb 20 _ rfl) rfl), rfl, (fun e => by cases e), .inl ⟨rfl, rfl⟩, rfl, fun _ => rfl, .inl ⟨rfl, rfl⟩, rfl, fun _ => rfl, .inl ⟨rfl, rfl⟩, rfl, fun _ => rfl, .inl ⟨rfl, rfl⟩, rfl, fun _ => rfl⟩
  | 20, _ => ⟨rfl, .inl ⟨rfl, rfl⟩, rfl, fun _ => rfl, row_blk (cs := cellsT [(2, 5, 0)]) (hb 21 _ rfl) rfl, rfl, (fun e => by cases e), .inl ⟨rfl, rfl⟩, rfl, fun _ => rfl, .inl ⟨rfl, rfl⟩, rfl, fun _ => rfl, .inl ⟨rfl, rfl⟩, rfl, fun _ => rfl, .inl ⟨rfl, rfl⟩, rfl, fun _ => rfl, .inl ⟨rfl, rfl⟩, rfl, fun _ => rfl⟩
  | 21, _ => ⟨rfl, rowK_of_C (row_blk (cs := List.map (Value.int .i64) [2]) (hb 0 _ rfl) rfl), rfl, (fun e => by cases e), .inl ⟨rfl, rfl⟩, rfl, fun _ => rfl, .inl ⟨rfl, rfl⟩, rfl, fun _ => rfl, .inl ⟨rfl, rfl⟩, rfl, fun _ => rfl, .inl ⟨rfl, rfl⟩, rfl, fun _ => rfl, row_blk (cs := cellsT [(4, 6, 1)]) (hb 22 _ rfl) rfl, rfl, (fun e => by cases e), .inl ⟨rfl, rfl⟩, rfl, fun _ => rfl⟩
  | 22, _ => ⟨rfl, rowK_of_C (row_blk (cs := List.map (Value.int .i64) [2]) (hb 0 _ rfl) rfl), rfl, (fun e => by cases e), .inl ⟨rfl, rfl⟩, rfl, fun _ => rfl, .inl ⟨rfl, rfl⟩, rfl, fun _ => rfl, .inl ⟨rfl, rfl⟩, rfl, fun _ => rfl, .inl ⟨rfl, rfl⟩, rfl, fun _ => rfl, row_blk (cs := cellsT [(4, 6, 1), (6, 5, 1)]) (hb 23 _ rfl) rfl, rfl, (fun e => by cases e), .inl ⟨rfl, rfl⟩, rfl, fun _ => rfl⟩
  | 23, _ => ⟨rfl, .inl ⟨rfl, rfl⟩, rfl, fun _ => rfl, .inl ⟨rfl, rfl⟩, rfl, fun _ => rfl, .inl ⟨rfl, rfl⟩, rfl, fun _ => rfl, .inl ⟨rfl, rfl⟩, rfl, fun _ => rfl, .inl ⟨rfl, rfl⟩, rfl, fun _ => rfl, .inl ⟨rfl, rfl⟩, rfl, fun _ => rfl, row_blk (cs := cellsS [(105, 0, ⟨#[97]⟩)]) (hb 24 _ rfl) rfl, rfl, (fun e => by cases e)⟩
  | k + 24, h => absurd h (by omega)
theorem wr_read (B : Nat) : ∀ k, k < 24 → Read (wrCV B k)
  | 0, _ => ⟨(by show 0 ≤ 1000000; decide), (by show 0 ≤ 1000000; decide), (by show 0 ≤ 1000000; decide), (by show 0 ≤ 1000000; decide), (by show 0 ≤ 1000000; decide), (by show 0 ≤ 1000000; decide), (by show 0 ≤ 1000000; decide)⟩
  | 1, _ => ⟨(by show 1 ≤ 1000000; decide), (by show 0 ≤ 1000000; decide), (by show 0 ≤ 1000000; decide), (by show 0 ≤ 1000000; decide), (by show 0 ≤ 1000000; decide), (by show 0 ≤ 1000000; decide), (by show 0 ≤ 1000000; decide)⟩
  | 2, _ => ⟨(by show 1 ≤ 1000000; decide), (by show 0 ≤ 1000000; decide), (by show 0 ≤ 1000000; decide), (by show 0 ≤ 1000000; decide), (by show 0 ≤ 1000000; decide), (by show 0 ≤ 1000000; decide), (by show 0 ≤ 1000000; decide)⟩
  | 3, _ => ⟨(by show 1 ≤ 1000000; decide), (by show 0 ≤ 1000000; decide), (by show 0 ≤ 1000000; decide), (by show 0 ≤ 1000000; decide), (by show 0 ≤ 1000000; decide), (by show 0 ≤ 1000000; decide), (by show 0 ≤ 1000000; decide)⟩
  | 4, _ => ⟨(by show 1 ≤ 1000000; decide), (by show 0 ≤ 1000000; decide), (by show 0 ≤ 1000000; decide), (by show 0 ≤ 1000000; decide), (by show 0 ≤ 1000000; decide), (by show 0 ≤ 1000000; decide), (by show 0 ≤ 1000000; decide)⟩
  | 5, _ => ⟨(by show 0 ≤ 1000000; decide), (by show 1 ≤ 1000000; decide), (by show 0 ≤ 1000000; decide), (by show 0 ≤ 1000000; decide), (by show 0 ≤ 1000000; decide), (by show 0 ≤ 1000000; decide), (by show 0 ≤ 1000000; decide)⟩
  | 6, _ => ⟨(by show 0 ≤ 1000000; decide), (by show 1 ≤ 1000000; decide), (by show 0 ≤ 1000000; decide), (by show 0 ≤ 1000000; decide), (by show 0 ≤ 1000000; decide), (by show 0 ≤ 1000000; decide), (by show 0 ≤ 1000000; decide)⟩
  | 7, _ => ⟨(by show 1 ≤ 1000000; decide), (by show 0 ≤ 1000000; decide), (by show 1 ≤ 1000000; decide), (by show 0 ≤ 1000000; decide), (by show 0 ≤ 1000000; decide), (by show 0 ≤ 1000000; decide), (by show 0 ≤ 1000000; decide)⟩
  | 8, _ => ⟨(by show 1 ≤ 1000000; decide), (by show 0 ≤ 1000000; decide), (by show 0 ≤ 1000000; decide), (by show 1 ≤ 1000000; decide), (by show 0 ≤ 1000000; decide), (by show 0 ≤ 1000000; decide), (by show 0 ≤ 1000000; decide)⟩
  | 9, _ => ⟨(by show 1 ≤ 1000000; decide), (by show 0 ≤ 1000000; decide), (by show 0 ≤ 1000000; decide), (by show 0 ≤ 1000000; decide), (by show 0 ≤ 1000000; decide), (by show 1 ≤ 1000000; decide), (by show 0 ≤ 1000000; decide)⟩
  | 10, _ => ⟨(by show 1 ≤ 1000000; decide), (by show 0 ≤ 1000000; decide), (by show 0 ≤ 1000000; decide), (by show 0 ≤ 1000000; decide), (by show 0 ≤ 1000000; decide), (by show 0 ≤ 1000000; decide), (by show 1 ≤ 1000000; decide)⟩
  | 11, _ => ⟨(by show 1 ≤ 1000000; decide), (by show 0 ≤ 1000000; decide), (by show 0 ≤ 1000000; decide), (by show 0 ≤ 1000000; decide), (by show 0 ≤ 1000000; decide), (by show 0 ≤ 1000000; decide), (by show 1 ≤ 1000000; decide)⟩
  | 12, _ => ⟨(by show 1 ≤ 1000000; decide), (by show 0 ≤ 1000000; decide), (by show 0 ≤ 1000000; decide), (by show 0 ≤ 1000000; decide), (by show 0 ≤ 1000000; decide), (by show 0 ≤ 1000000; decide), (by show 1 ≤ 1000000; decide)⟩
  | 13, _ => ⟨(by show 1 ≤ 1000000; decide), (by show 0 ≤ 1000000; decide), (by show 0 ≤ 1000000; decide), (by show 0 ≤ 1000000; decide), (by show 0 ≤ 1000000; decide), (by show 0 ≤ 1000000; decide), (by show 1 ≤ 1000000; decide)⟩
  | 14, _ => ⟨(by show 1 ≤ 1000000; decide), (by show 0 ≤ 1000000; decide), (by show 0 ≤ 1000000; decide), (by show 0 ≤ 1000000; decide), (by show 0 ≤ 1000000; decide), (by show 0 ≤ 1000000; decide), (by show 1 ≤ 1000000; decide)⟩
  | 15, _ => ⟨(by show 2 ≤ 1000000; decide), (by show 0 ≤ 1000000; decide), (by show 0 ≤ 1000000; decide), (by show 0 ≤ 1000000; decide), (by show 0 ≤ 1000000; decide), (by show 0 ≤ 1000000; decide), (by show 0 ≤ 1000000; decide)⟩
  | 16, _ => ⟨(by show 1 ≤ 1000000; decide), (by show 1 ≤ 1000000; decide), (by show 0 ≤ 1000000; decide), (by show 0 ≤ 1000000; decide), (by show 0 ≤ 1000000; decide), (by show 0 ≤ 1000000; decide), (by show 0 ≤ 1000000; decide)⟩
  | 17, _ => ⟨(by show 1 ≤ 1000000; decide), (by show 0 ≤ 1000000; decide), (by show 0 ≤ 1000000; decide), (by show 0 ≤ 1000000; decide), (by show 0 ≤ 1000000; decide), (by show 1 ≤ 1000000; decide), (by show 0 ≤ 1000000; decide)⟩
  | 18, _ => ⟨(by show 2 ≤ 1000000; decide), (by show 0 ≤ 1000000; decide), (by show 0 ≤ 1000000; decide), (by show 0 ≤ 1000000; decide), (by show 0 ≤ 1000000; decide), (by show 0 ≤ 1000000; decide), (by show 2 ≤ 1000000; decide)⟩
  | 19, _ => ⟨(by show 1 ≤ 1000000; decide), (by show 0 ≤ 1000000; decide), (by show 1 ≤ 1000000; decide), (by show 0 ≤ 1000000; decide), (by show 0 ≤ 1000000; decide), (by show 0 ≤ 1000000; decide), (by show 0 ≤ 1000000; decide)⟩
  | 20, _ => ⟨(by show 0 ≤ 1000000; decide), (by show 1 ≤ 1000000; decide), (by show 0 ≤ 1000000; decide), (by show 0 ≤ 1000000; decide), (by show 0 ≤ 1000000; decide), (by show 0 ≤ 1000000; decide), (by show 0 ≤ 1000000; decide)⟩
  | 21, _ => ⟨(by show 1 ≤ 1000000; decide), (by show 0 ≤ 1000000; decide), (by show 0 ≤ 1000000; decide), (by show 0 ≤ 1000000; decide), (by show 0 ≤ 1000000; decide), (by show 1 ≤ 1000000; decide), (by show 0 ≤ 1000000; decide)⟩
  | 22, _ => ⟨(by show 1 ≤ 1000000; decide), (by show 0 ≤ 1000000; decide), (by show 0 ≤ 1000000; decide), (by show 0 ≤ 1000000; decide), (by show 0 ≤ 1000000; decide), (by show 2 ≤ 1000000; decide), (by show 0 ≤ 1000000; decide)⟩
  | 23, _ => ⟨(by show 0 ≤ 1000000; decide), (by show 0 ≤ 1000000; decide), (by show 0 ≤ 1000000; decide), (by show 0 ≤ 1000000; decide), (by show 0 ≤ 1000000; decide), (by show 0 ≤ 1000000; decide), (by show 1 ≤ 1000000; decide)⟩
  | k + 24, h => absurd h (by omega)
theorem wr_names : ∀ k, k < 24 → NamesFit (wrC k) := by
  have h : ∀ k, k < 24 → ∀ s ∈ (wrC k).names, s.2.2.size ≤ 100 := by decide +kernel
  exact fun k hk s hs => Nat.le_trans (h k hk s hs) (by decide)
theorem wr_max (B : Nat) : ∀ k, k < 24 → I64 (wrCV B k).m
  | 0, _ => ⟨(by show (-9223372036854775808 : Int) ≤ (-1); decide), (by show (-1) ≤ (9223372036854775807 : Int); decide)⟩
  | 1, _ => ⟨(by show (-9223372036854775808 : Int) ≤ 1; decide), (by show 1 ≤ (9223372036854775807 : Int); decide)⟩
  | 2, _ => ⟨(by show (-9223372036854775808 : Int) ≤ 1; decide), (by show 1 ≤ (9223372036854775807 : Int); decide)⟩
  | 3, _ => ⟨(by show (-9223372036854775808 : Int) ≤ 1; decide), (by show 1 ≤ (9223372036854775807 : Int); decide)⟩
  | 4, _ => ⟨(by show (-9223372036854775808 : Int) ≤ 1; decide), (by show 1 ≤ (9223372036854775807 : Int); decide)⟩
  | 5, _ => ⟨(by show (-9223372036854775808 : Int) ≤ 1; decide), (by show 1 ≤ (9223372036854775807 : Int); decide)⟩
  | 6, _ => ⟨(by show (-9223372036854775808 : Int) ≤ 1; decide), (by show 1 ≤ (9223372036854775807 : Int); decide)⟩
  | 7, _ => ⟨(by show (-9223372036854775808 : Int) ≤ 1; decide), (by show 1 ≤ (9223372036854775807 : Int); decide)⟩
  | 8, _ => ⟨(by show (-9223372036854775808 : Int) ≤ 1; decide), (by show 1 ≤ (9223372036854775807 : Int); decide)⟩
  | 9, _ => ⟨(by show (-9223372036854775808 : Int) ≤ 2; decide), (by show 2 ≤ (9223372036854775807 : Int); decide)⟩
  | 10, _ => ⟨(by show (-9223372036854775808 : Int) ≤ 1; decide), (by show 1 ≤ (9223372036854775807 : Int); decide)⟩
  | 11, _ => ⟨(by show (-9223372036854775808 : Int) ≤ 1; decide), (by show 1 ≤ (9223372036854775807 : Int); decide)⟩
  | 12, _ => ⟨(by show (-9223372036854775808 : Int) ≤ 1; decide), (by show 1 ≤ (9223372036854775807 : Int); decide)⟩
  | 13, _ => ⟨(by show (-9223372036854775808 : Int) ≤ 1; decide), (by show 1 ≤ (9223372036854775807 : Int); decide)⟩
  | 14, _ => ⟨(by show (-9223372036854775808 : Int) ≤ 1; decide), (by show 1 ≤ (9223372036854775807 : Int); decide)⟩
  | 15, _ => ⟨(by show (-9223372036854775808 : Int) ≤ 1; decide), (by show 1 ≤ (9223372036854775807 : Int); decide)⟩
  | 16, _ => ⟨(by show (-9223372036854775808 : Int) ≤ 1; decide), (by show 1 ≤ (9223372036854775807 : Int); decide)⟩
  | 17, _ => ⟨(by show (-9223372036854775808 : Int) ≤ 2; decide), (by show 2 ≤ (9223372036854775807 : Int); decide)⟩
  | 18, _ => ⟨(by show (-9223372036854775808 : Int) ≤ 2; decide), (by show 2 ≤ (9223372036854775807 : Int); decide)⟩
  | 19, _ => ⟨(by show (-9223372036854775808 : Int) ≤ 2; decide), (by show 2 ≤ (9223372036854775807 : Int); decide)⟩
  | 20, _ => ⟨(by show (-9223372036854775808 : Int) ≤ 2; decide), (by show 2 ≤ (9223372036854775807 : Int); decide)⟩
  | 21, _ => ⟨(by show (-9223372036854775808 : Int) ≤ 3; decide), (by show 3 ≤ (9223372036854775807 : Int); decide)⟩
  | 22, _ => ⟨(by show (-9223372036854775808 : Int) ≤ 3; decide), (by show 3 ≤ (9223372036854775807 : Int); decide)⟩
  | 23, _ => ⟨(by show (-9223372036854775808 : Int) ≤ 0; decide), (by show 0 ≤ (9223372036854775807 : Int); decide)⟩
  | k + 24, h => absurd h (by omega)

def eight (c : CV) : List Value := [.int .i64 c.m, .slice c.a1 c.n1 c.c1, .slice c.a2 c.n2 c.c2, .slice c.a3 c.n3 c.c3, .slice c.a4 c.n4 c.c4, .slice c.a5 c.n5 c.c5, .slice c.a6 c.n6 c.c6, .slice c.a7 c.n7 c.c7]
def wrRow (B : Nat) : List Value := (List.range 24).flatMap (fun k => eight (wrCV B k))
theorem eight_at (f : Nat → CV) : ∀ (n k j : Nat), k < n → j < 8 → ((List.range n).flatMap (fun k => eight (f k)))[k * 8 + j]? = (eight (f k))[j]? := by
  intro n
  induction n with
  | zero => intro k j hk; exact absurd hk (Nat.not_lt_zero _)
  | succ n ih =>
    intro k j hk hj
    have hl : ((List.range n).flatMap (fun k => eight (f k))).length = n * 8 := by
      clear ih hk
      induction n with
      | zero => rfl
      | succ n ih => rw [List.range_succ, List.flatMap_append, List.length_append, ih]; simp [eight]; omega
    rw [List.range_succ, List.flatMap_append]
    by_cases h : k < n
    · rw [List.getElem?_append_left (by rw [hl]; omega)]; exact ih k j h hj
    · obtain rfl : k = n := by omega
      rw [List.getElem?_append_right (by rw [hl]; omega), hl, Nat.add_sub_cancel_left]
      simp

/-- What the law's memory holds. -/
structure Wr (w1 : World) (B : Nat) (W : World) : Prop where
  below : Below w1.heap.size w1 W
  cells : ∀ k j u, k < 24 → (eight (wrCV B k))[j]? = some u → W.cell? ⟨B + 25, k * 8 + j, none⟩ = some u
  want : ∀ k, k < 24 → W.cell? ⟨B + 26, k, none⟩ = some (.int .i64 (atP wrWant k))
  holds : ∀ k, k < 24 → Holds W (wrCV B k) (wrC k)
def wrTail (B : Nat) : List Obj := [.cells (wrRow B).toArray 27, .cells (wrWant.map (Value.int .i64)).toArray 3]
def wrAll (w1 : World) : World := (wrObjs ++ wrTail w1.heap.size).foldl World.alloc w1
theorem wr_all (w1 : World) : Wr w1 w1.heap.size (wrAll w1) := by
  obtain ⟨h1, h2, h3⟩ := foldl_alloc (wrObjs ++ wrTail w1.heap.size) w1
  have hlen : wrObjs.length = 25 := rfl
  refine ⟨h3, fun k j u hk hu => ?_, fun k hk => ?_, wr_holds (fun i o ho => h2 i o ?_)⟩
  · have hj : j < 8 := by
      rcases Nat.lt_or_ge j 8 with h | h
      · exact h
      · rw [List.getElem?_eq_none (show (eight (wrCV w1.heap.size k)).length ≤ j from h)] at hu; cases hu
    have hb := h2 25 (.cells (wrRow w1.heap.size).toArray 27) (by rw [List.getElem?_append_right (by rw [hlen]; decide), hlen]; rfl)
    unfold wrAll
    rw [cell_of_row _ _ (k * 8 + j) _ _ (0, 0) hb]
    have := eight_at (wrCV w1.heap.size) 24 k j hk hj
    rw [hu] at this
    simpa [wrRow] using this
  · have hb := h2 26 (.cells (wrWant.map (Value.int .i64)).toArray 3) (by rw [List.getElem?_append_right (by rw [hlen]; decide), hlen]; rfl)
    unfold wrAll
    rw [cell_of_row _ _ k _ _ (0, 0) hb]
    have hl : k < wrWant.length := hk
    rw [List.getElem?_toArray, List.getElem?_map, List.getElem?_eq_getElem hl, atP_eq wrWant k hl]
    rfl
  · have hi : i < 25 := by
      rcases Nat.lt_or_ge i 25 with h | h
      · exact h
      · rw [List.getElem?_eq_none (show wrObjs.length ≤ i from h)] at ho; cases ho
    rw [List.getElem?_append_left (by rw [hlen]; exact hi)]
    exact ho
end Go.Proofs.Ytppaifckiaaffaa
