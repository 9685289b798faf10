/-
  THE WALKS of the reference's rows, reset, header, symbols: the text that each makes.
-/
import Derived.Test.YtimpddokepbabaaGreatDoorJ47
import Derived.Test.YtimpddokepbabaaGreatDoorAigBox
import Derived.Deep.RegionHeld3
import Derived.BigQuiet
namespace Go.Proofs.YtimpddokepbabaaGreatDoor
open Go.RowKit

theorem app_bytes (a b : List UInt8) : bytesA a ++ bytesA b = bytesA (a ++ b) := by
  apply ByteArray.ext
  simp [bytesA]
theorem byte10 : (⟨#[10]⟩ : ByteArray) = bytesA [10] := rfl
theorem byte32 : (⟨#[32]⟩ : ByteArray) = bytesA [32] := rfl
theorem byteN : (⟨#[]⟩ : ByteArray) = bytesA [] := rfl
theorem digits_any (n : Int) (w : World) (h0 : 0 ≤ n) (h1 : n ≤ 9223372036854775807) :
    Calls Tryz.prog 26 #[.int .i64 n] w fun e w' => e = .returned (.string (bytesA (digs n))) ∧ w' = w := decS_any n w h0 h1
theorem digs_size (n : Int) : (bytesA (digs n)).size ≤ 19 := decS_size n.toNat

theorem portT_le0 : ∀ (l : List Int), (∀ n ∈ l, 0 ≤ n ∧ n < 100000) → (portT l).length ≤ l.length * 7 := fun l h => by
  unfold portT
  induction l with
  | nil => exact Nat.zero_le _
  | cons x l ih =>
    have h1 := digs_few (h x List.mem_cons_self).1 (h x List.mem_cons_self).2
    have h2 := ih (fun y hy => h y (List.mem_cons_of_mem _ hy))
    have h3 : (rowT [x]).length = (digs x).length + 1 := by simp [rowT, joinT]
    rw [List.flatMap_cons, List.length_append, List.length_cons]
    rw [h3]
    omega
theorem portT_take (L : List Int) (k : Nat) (h : k < L.length) : bytesA (portT (L.take k)) ++ bytesA (digs (L.getD k 0)) ++ ⟨#[10]⟩ = bytesA (portT (L.take (k + 1))) := by
  rw [byte10, app_bytes, app_bytes]
  apply bytesA_ext
  rw [List.take_succ_eq_append_getElem h, portT, portT, List.flatMap_append, List.getD_eq_getElem?_getD, List.getElem?_eq_getElem h]
  simp [rowT, joinT]

set_option maxRecDepth 100000 in
set_option maxHeartbeats 1000000 in
theorem rowsT_any (a : Option Addr) (n c : Nat) (L : List Int) (w : World) (hr : RowK .i64 w a L) (hl : L.length = n) (hn : n ≤ 100000) (hp : ∀ x ∈ L, 0 ≤ x ∧ x ≤ 99999) :
    Calls Tryz.prog 48 #[.slice a n c] w fun e w' => e = .returned (.string (bytesA (portT L))) ∧ w' = w := by
  have HSz : Hid (∀ k, (bytesA (portT (L.take k))).size ≤ 700000) := fun k => by
    show (bytesA (portT (L.take k))).size ≤ 700000
    rw [bytesA_size]
    have h1 := portT_le0 (L.take k) (fun x hx => by have := hp x (List.mem_of_mem_take hx); omega)
    have h2 : (L.take k).length ≤ L.length := by rw [List.length_take]; omega
    omega
  have HR := hide hr
  have HL := hide hl
  have HP := hide hp
  have HS := hide (fun k h => portT_take L k h)
  have HD := hide (fun n W h0 h1 => digits_any n W h0 h1)
  have HE : Hid (bytesA (portT L) = bytesA (portT (L.take n))) := by show _ = _; rw [← hl, List.take_length]
  generalize hP : (fun (e : Ending) (w' : World) => e = .returned (.string (bytesA (portT L))) ∧ w' = w) = Post
  have HPo := hide hP
  clear hr hl hp hP
  go_enter Tryz.func48, Tryz.ntmps48
  go_wp2
  go_loop [3, 4] (fun s i => ∃ k : Nat, i = .int .i64 k ∧ k ≤ n ∧ s = .string (bytesA (portT (L.take k)))) (fun _ i => n - (intOf i).toNat)
  case atStart => exact ⟨0, rfl, Nat.zero_le _, rfl⟩
  case round =>
    obtain ⟨k, rfl, hk, rfl⟩ := hrel
    by_cases hlt : k < n
    · obtain ⟨b, off, rfl, -, hcell⟩ := HR.out.addr (by rw [HL.out]; omega)
      have hkL : k < L.length := by rw [HL.out]; exact hlt
      have hc := hcell k hkL
      have hx := HP.out _ (getD_mem L k hkL)
      have HSk := hide (HS.out k hkL)
      obtain ⟨hx0, hx1⟩ := hx
      generalize L.getD k 0 = x at *
      have HDx := hide (HD.out x w hx0 (by omega))
      have hzA := HSz.out k
      have hzD := digs_size x
      generalize bytesA (portT (L.take k)) = A at *
      generalize bytesA (digs x) = D at *
      clear hcell
      go_wp2_with (go_at_call 26; refine HDx.out.mono ?_; rintro e w1 ⟨rfl, rfl⟩)
      go_round
      case rel => exact ⟨k + 1, by go_num, by omega, congrArg Value.string HSk.out⟩
      case measure => simp [intOf]; omega
    · obtain rfl : k = n := by omega
      have hfin : Hid (Post (.returned (.string (bytesA (portT (L.take k))))) w) := by
        show Post _ _
        rw [← HPo.out, ← HE.out]
        exact ⟨rfl, rfl⟩
      go_wp2
      exact hfin.out

def resetT (r : Int) : List UInt8 := if r = 0 then [10] else 32 :: (digs r ++ [10])
theorem lat_text (x : Tri) : rowT (latN x) = digs x.1 ++ 32 :: (digs x.2.1 ++ resetT x.2.2) := by
  unfold latN laterN resetT
  split <;> simp [rowT, joinT]
theorem later_text (x : Tri) : rowT (laterN x) = digs x.2.1 ++ resetT x.2.2 := by
  unfold laterN resetT
  split <;> simp [rowT, joinT]
set_option maxHeartbeats 400000 in
theorem resetT_any (r : Int) (w : World) (h0 : 0 ≤ r) (h1 : r ≤ 100000) :
    Calls Tryz.prog 49 #[.int .i64 r] w fun e w' => e = .returned (.string (bytesA (resetT r))) ∧ w' = w := by
  by_cases hr : r = 0
  · subst hr
    go_enter Tryz.func49, Tryz.ntmps49
    go_wp2
    go_ret
    exact ⟨rfl, rfl⟩
  · have e : bytesA (resetT r) = ⟨#[32]⟩ ++ bytesA (digs r) ++ ⟨#[10]⟩ := by
      rw [resetT, if_neg hr, byte32, byte10, app_bytes, app_bytes]; rfl
    rw [e]
    have hb : (r == 0) = false := by rw [beq_eq_false_iff_ne]; exact hr
    have HD := hide (digits_any r w h0 (by omega))
    have hzD := digs_size r
    generalize bytesA (digs r) = D at *
    clear hr e
    go_enter Tryz.func49, Tryz.ntmps49
    go_wp2_with (go_at_call 26; refine HD.out.mono ?_; rintro e w1 ⟨rfl, rfl⟩)
    go_ret
    exact ⟨rfl, rfl⟩

theorem bytes32 (l : List UInt8) : bytesA (32 :: l) = ⟨#[32]⟩ ++ bytesA l := by rw [byte32, app_bytes]; rfl
/-- A header's text, piece by piece. -/
theorem hdr_text (word : List UInt8) (C : Circ) :
    bytesA (hdrT word C) = bytesA word ++ ⟨#[32]⟩ ++ bytesA (digs C.max) ++ ⟨#[32]⟩ ++ bytesA (digs C.ins.length) ++ ⟨#[32]⟩ ++ bytesA (digs C.lats.length) ++ ⟨#[32]⟩ ++ bytesA (digs C.outs.length) ++ ⟨#[32]⟩ ++ bytesA (digs C.ands.length) ++
      bytesA ((if 0 < C.bads.length ∨ 0 < C.cons.length then 32 :: digs C.bads.length else []) ++ (if 0 < C.cons.length then 32 :: digs C.cons.length else [])) ++ ⟨#[10]⟩ := by
  simp only [byte10, byte32, app_bytes]
  apply bytesA_ext
  unfold hdrT cntN
  by_cases hc : 0 < C.cons.length
  · rw [if_pos (.inr hc), if_pos hc, if_pos (.inr hc), if_pos hc]
    simp [rowT, joinT]
  · by_cases hb : 0 < C.bads.length
    · rw [if_pos (.inl hb), if_neg hc, if_pos (.inl hb), if_neg hc]
      simp [rowT, joinT]
    · rw [if_neg (by omega), if_neg hc, if_neg (by omega), if_neg hc]
      simp [rowT, joinT]

theorem hdr_end {w W : World} {Post : Ending → World → Prop} {S R T : ByteArray} (h : ∀ S W, S = T → Below w.heap.size w W → Post (.returned (.string S)) W) (e : T = R) (hs : S = R) (hb : Below w.heap.size w W) : Post (.returned (.string S)) W := h S W (hs.trans e.symm) hb

set_option maxRecDepth 100000 in
set_option maxHeartbeats 2000000 in
theorem headerT_any (word : List UInt8) (hwz : word.length ≤ 100) (c : CV) (C : Circ) (w : World) (h : Holds w c C) (h0 : 0 ≤ C.max) (hm : C.max ≤ 100000) (h1 : c.n1 ≤ 100000) (h2 : c.n2 ≤ 100000) (h3 : c.n3 ≤ 100000) (h4 : c.n4 ≤ 100000) (h5 : c.n5 ≤ 100000) (h6 : c.n6 ≤ 100000) :
    Calls Tryz.prog 47 #[.string (bytesA word), c.v] w fun e w' => e = .returned (.string (bytesA (hdrT word C))) ∧ Below w.heap.size w w' := by
  have HT := hide (hdr_text word C)
  rw [h.l1, h.l2, h.l3, h.l4, h.l5, h.l6, ← h.m] at HT
  rw [← h.m] at h0 hm
  have hz1 := digs_size c.m
  have hz2 := digs_size c.n1
  have hz3 := digs_size c.n2
  have hz4 := digs_size c.n3
  have hz5 := digs_size c.n6
  have hz6 := digs_size c.n4
  have hz7 := digs_size c.n5
  have hzw : (bytesA word).size ≤ 100 := by rw [bytesA_size]; exact hwz
  have HB := hide (And.intro (below_alloc w (.cells #[.int .i64 c.m, .slice c.a1 c.n1 c.c1, .slice c.a2 c.n2 c.c2, .slice c.a3 c.n3 c.c3, .slice c.a4 c.n4 c.c4, .slice c.a5 c.n5 c.c5, .slice c.a6 c.n6 c.c6, .slice c.a7 c.n7 c.c7] 29)) (box_new w c))
  have D0 := hide (fun W => digits_any c.m W h0 (by omega))
  have D1 := hide (fun W => digits_any c.n1 W (by omega) (by omega))
  have D2 := hide (fun W => digits_any c.n2 W (by omega) (by omega))
  have D3 := hide (fun W => digits_any c.n3 W (by omega) (by omega))
  have D6 := hide (fun W => digits_any c.n6 W (by omega) (by omega))
  have D4 := hide (fun W => digits_any c.n4 W (by omega) (by omega))
  have D5 := hide (fun W => digits_any c.n5 W (by omega) (by omega))
  generalize hP : (fun (e : Ending) (w' : World) => e = .returned (.string (bytesA (hdrT word C))) ∧ Below w.heap.size w w') = Post
  have HPo : Hid (∀ S W, S = bytesA (hdrT word C) → Below w.heap.size w W → Post (.returned (.string S)) W) := fun S W e hb => by rw [← hP, e]; exact ⟨rfl, hb⟩
  clear hP h
  unfold CV.v
  obtain ⟨cm, a1, n1, k1, a2, n2, k2, a3, n3, k3, a4, n4, k4, a5, n5, k5, a6, n6, k6, a7, n7, k7⟩ := c
  dsimp only at *
  rcases (by omega : (n4 = 0 ∧ n5 = 0) ∨ (0 < n4 ∧ n5 = 0) ∨ 0 < n5) with ⟨q4, q5⟩ | ⟨q4, q5⟩ | q5
  · rw [if_neg (by omega), if_neg (by omega)] at HT
    rw [show bytesA (([] : List UInt8) ++ []) = ByteArray.empty from rfl, ByteArray.append_empty] at HT
    clear D4 D5 hz6 hz7
    generalize bytesA (digs cm) = E0 at *
    generalize bytesA (digs n1) = E1 at *
    generalize bytesA (digs n2) = E2 at *
    generalize bytesA (digs n3) = E3 at *
    generalize bytesA (digs n6) = E6 at *
    generalize bytesA word = WW at *
    subst q4
    subst q5
    go_enter Tryz.func47, Tryz.ntmps47
    go_wp2
    go_quiet ((first | (go_at_call_of 26 (Value.int .i64 cm); refine (D0.out _).mono ?_; rintro e w1 ⟨rfl, rfl⟩; exact ⟨rfl, _, rfl⟩) | (go_at_call_of 26 (Value.int .i64 (n1 : Int)); refine (D1.out _).mono ?_; rintro e w1 ⟨rfl, rfl⟩; exact ⟨rfl, _, rfl⟩) | (go_at_call_of 26 (Value.int .i64 (n2 : Int)); refine (D2.out _).mono ?_; rintro e w1 ⟨rfl, rfl⟩; exact ⟨rfl, _, rfl⟩) | (go_at_call_of 26 (Value.int .i64 (n3 : Int)); refine (D3.out _).mono ?_; rintro e w1 ⟨rfl, rfl⟩; exact ⟨rfl, _, rfl⟩) | (go_at_call_of 26 (Value.int .i64 (n6 : Int)); refine (D6.out _).mono ?_; rintro e w1 ⟨rfl, rfl⟩; exact ⟨rfl, _, rfl⟩)))
    go_wp2
    exact hdr_end HPo.out HT.out (by first | (simp only [ByteArray.append_assoc]; done) | rfl) (belowThen HB.out.1 (Drew.below ⟨_, rfl⟩))
  · rw [if_pos (.inl q4), if_neg (by omega)] at HT
    rw [List.append_nil, bytes32] at HT
    clear D5 hz7
    generalize bytesA (digs cm) = E0 at *
    generalize bytesA (digs n1) = E1 at *
    generalize bytesA (digs n2) = E2 at *
    generalize bytesA (digs n3) = E3 at *
    generalize bytesA (digs n6) = E6 at *
    generalize bytesA word = WW at *
    generalize bytesA (digs n4) = E4 at *
    have q4I : decide ((0 : Int) < (n4 : Int)) = true := decide_eq_true (by omega)
    subst q5
    go_enter Tryz.func47, Tryz.ntmps47
    go_wp2
    go_quiet ((first | (go_at_call_of 26 (Value.int .i64 cm); refine (D0.out _).mono ?_; rintro e w1 ⟨rfl, rfl⟩; exact ⟨rfl, _, rfl⟩) | (go_at_call_of 26 (Value.int .i64 (n1 : Int)); refine (D1.out _).mono ?_; rintro e w1 ⟨rfl, rfl⟩; exact ⟨rfl, _, rfl⟩) | (go_at_call_of 26 (Value.int .i64 (n2 : Int)); refine (D2.out _).mono ?_; rintro e w1 ⟨rfl, rfl⟩; exact ⟨rfl, _, rfl⟩) | (go_at_call_of 26 (Value.int .i64 (n3 : Int)); refine (D3.out _).mono ?_; rintro e w1 ⟨rfl, rfl⟩; exact ⟨rfl, _, rfl⟩) | (go_at_call_of 26 (Value.int .i64 (n6 : Int)); refine (D6.out _).mono ?_; rintro e w1 ⟨rfl, rfl⟩; exact ⟨rfl, _, rfl⟩)))
    go_wp2_with (first | (go_at_call_of 26 (Value.int .i64 (n4 : Int)); refine (D4.out _).mono ?_; rintro e w1 ⟨rfl, rfl⟩))
    exact hdr_end HPo.out HT.out (by first | (simp only [ByteArray.append_assoc]; done) | rfl) (belowThen HB.out.1 (Drew.below ⟨_, rfl⟩))
  · rw [if_pos (.inr q5), if_pos q5] at HT
    rw [← app_bytes, bytes32, bytes32] at HT
    generalize bytesA (digs cm) = E0 at *
    generalize bytesA (digs n1) = E1 at *
    generalize bytesA (digs n2) = E2 at *
    generalize bytesA (digs n3) = E3 at *
    generalize bytesA (digs n6) = E6 at *
    generalize bytesA word = WW at *
    generalize bytesA (digs n4) = E4 at *
    generalize bytesA (digs n5) = E5 at *
    have q5I : decide ((0 : Int) < (n5 : Int)) = true := decide_eq_true (by omega)
    by_cases r4 : 0 < n4
    · have r4I : decide ((0 : Int) < (n4 : Int)) = true := decide_eq_true (by omega)
      go_enter Tryz.func47, Tryz.ntmps47
      go_wp2
      go_quiet ((first | (go_at_call_of 26 (Value.int .i64 cm); refine (D0.out _).mono ?_; rintro e w1 ⟨rfl, rfl⟩; exact ⟨rfl, _, rfl⟩) | (go_at_call_of 26 (Value.int .i64 (n1 : Int)); refine (D1.out _).mono ?_; rintro e w1 ⟨rfl, rfl⟩; exact ⟨rfl, _, rfl⟩) | (go_at_call_of 26 (Value.int .i64 (n2 : Int)); refine (D2.out _).mono ?_; rintro e w1 ⟨rfl, rfl⟩; exact ⟨rfl, _, rfl⟩) | (go_at_call_of 26 (Value.int .i64 (n3 : Int)); refine (D3.out _).mono ?_; rintro e w1 ⟨rfl, rfl⟩; exact ⟨rfl, _, rfl⟩) | (go_at_call_of 26 (Value.int .i64 (n6 : Int)); refine (D6.out _).mono ?_; rintro e w1 ⟨rfl, rfl⟩; exact ⟨rfl, _, rfl⟩)))
      go_wp2_with (first | (go_at_call_of 26 (Value.int .i64 (n4 : Int)); refine (D4.out _).mono ?_; rintro e w1 ⟨rfl, rfl⟩) | (go_at_call_of 26 (Value.int .i64 (n5 : Int)); refine (D5.out _).mono ?_; rintro e w1 ⟨rfl, rfl⟩))
      exact hdr_end HPo.out HT.out (by first | (simp only [ByteArray.append_assoc]; done) | rfl) (belowThen HB.out.1 (Drew.below ⟨_, rfl⟩))
    · obtain rfl : n4 = 0 := by omega
      clear r4
      go_enter Tryz.func47, Tryz.ntmps47
      go_wp2
      go_quiet ((first | (go_at_call_of 26 (Value.int .i64 cm); refine (D0.out _).mono ?_; rintro e w1 ⟨rfl, rfl⟩; exact ⟨rfl, _, rfl⟩) | (go_at_call_of 26 (Value.int .i64 (n1 : Int)); refine (D1.out _).mono ?_; rintro e w1 ⟨rfl, rfl⟩; exact ⟨rfl, _, rfl⟩) | (go_at_call_of 26 (Value.int .i64 (n2 : Int)); refine (D2.out _).mono ?_; rintro e w1 ⟨rfl, rfl⟩; exact ⟨rfl, _, rfl⟩) | (go_at_call_of 26 (Value.int .i64 (n3 : Int)); refine (D3.out _).mono ?_; rintro e w1 ⟨rfl, rfl⟩; exact ⟨rfl, _, rfl⟩) | (go_at_call_of 26 (Value.int .i64 (n6 : Int)); refine (D6.out _).mono ?_; rintro e w1 ⟨rfl, rfl⟩; exact ⟨rfl, _, rfl⟩)))
      go_wp2_with (first | (go_at_call_of 26 (Value.int .i64 0); refine (D4.out _).mono ?_; rintro e w1 ⟨rfl, rfl⟩) | (go_at_call_of 26 (Value.int .i64 (n5 : Int)); refine (D5.out _).mono ?_; rintro e w1 ⟨rfl, rfl⟩))
      exact hdr_end HPo.out HT.out (by first | (simp only [ByteArray.append_assoc]; done) | rfl) (belowThen HB.out.1 (Drew.below ⟨_, rfl⟩))

/-- Names' text, one more. -/
theorem namesT_take (L : List Sym) (k : Nat) (h : k < L.length) : bytesA ((L.take k).flatMap symT) ++ bytesA [UInt8.ofNat (atP L k).1.toNat] ++ bytesA (digs (atP L k).2.1) ++ ⟨#[32]⟩ ++ (atP L k).2.2 ++ ⟨#[10]⟩ = bytesA ((L.take (k + 1)).flatMap symT) := by
  rw [byte10, byte32, ← bytesA_of (atP L k).2.2]
  simp only [app_bytes]
  apply bytesA_ext
  rw [take_snocP _ _ h, List.flatMap_append]
  simp [symT]
theorem names_le (L : List Sym) (hn : ∀ y ∈ L, NameOk y ∧ y.2.1 ≤ 64 ∧ y.2.2.size ≤ 100) (k : Nat) : ((L.take k).flatMap symT).length ≤ L.length * 110 := by
  have h1 := flat_le symT 110 (L.take k) (fun y hy => by
    obtain ⟨n1, n2, n3⟩ := hn y (List.mem_of_mem_take hy)
    have h1 := digs_few n1.pos (by omega)
    have h2 : y.2.2.data.toList.length = y.2.2.size := Array.length_toList
    unfold symT
    rw [List.length_cons, List.length_append, List.length_cons, List.length_append, List.length_singleton]
    omega)
  have h2 : (L.take k).length ≤ L.length := by rw [List.length_take]; omega
  have : (L.take k).length * 110 ≤ L.length * 110 := Nat.mul_le_mul_right _ h2
  omega
theorem conv_one (w : World) (x : Int) : (convert 22 9 (.slice (some ⟨w.heap.size, 0, none⟩) 1 1)).run Tryz.prog (w.alloc (.cells #[.int .u8 x] 5)).drew = .ok (.string (bytesA [UInt8.ofNat x.toNat])) (w.alloc (.cells #[.int .u8 x] 5)).drew := by
  have hr : Row8 (w.alloc (.cells #[.int .u8 x] 5)).drew (some ⟨w.heap.size, 0, none⟩) [x] := .inr ⟨_, rfl, fun i hi => by
    obtain rfl : i = 0 := by simpa using hi
    rw [add_plain, Nat.zero_add]
    exact cell_of_row _ _ 0 _ _ (0, 0) (heap_alloc_new w _)⟩
  exact run_str (P := Tryz.prog) _ 22 5 9 Tryz.underlying22 Tryz.underlying5 Tryz.underlying9 _ _ hr 1 1 rfl

set_option maxRecDepth 100000 in
set_option maxHeartbeats 2000000 in
theorem symbolsT_any (a : Option Addr) (n c : Nat) (L : List Sym) (w : World) (hr : RowC w a (cellsS L)) (hl : L.length = n) (hn : n ≤ 1000) (hp : ∀ y ∈ L, NameOk y ∧ y.2.1 ≤ 64 ∧ y.2.2.size ≤ 100) :
    Calls Tryz.prog 50 #[.slice a n c] w fun e w' => e = .returned (.string (bytesA (L.flatMap symT))) ∧ Below w.heap.size w w' := by
  have HSz : Hid (∀ k, (bytesA ((L.take k).flatMap symT)).size ≤ 110000) := fun k => by
    show (bytesA ((L.take k).flatMap symT)).size ≤ 110000
    rw [bytesA_size]
    have := names_le L hp k
    have : L.length * 110 ≤ 110000 := by omega
    omega
  have HR := hide hr
  have HL := hide hl
  have HP := hide hp
  have HS := hide (fun k h => namesT_take L k h)
  have HD := hide (fun n W h0 h1 => digits_any n W h0 h1)
  have HE : Hid (bytesA (L.flatMap symT) = bytesA ((L.take n).flatMap symT)) := by show _ = _; rw [← hl, List.take_length]
  generalize hP : (fun (e : Ending) (w' : World) => e = .returned (.string (bytesA (L.flatMap symT))) ∧ Below w.heap.size w w') = Post
  have HPo := hide hP
  clear hr hl hp hP
  go_enter Tryz.func50, Tryz.ntmps50
  go_wp2
  go_loopw [3, 4] (fun s i wr => ∃ k : Nat, i = .int .i64 k ∧ k ≤ n ∧ s = .string (bytesA ((L.take k).flatMap symT)) ∧ Hid (Below w.heap.size w wr)) (fun _ i _ => n - (intOf i).toNat)
  case atStart => exact ⟨0, rfl, Nat.zero_le _, rfl, Below.refl _ _⟩
  case round =>
    obtain ⟨k, rfl, hk, rfl, HW⟩ := hrel
    by_cases hlt : k < n
    · obtain ⟨b, off, rfl, hbw, hcell⟩ := HR.out.addr (by rw [cellsS_len, HL.out]; omega)
      have hkL : k < L.length := by rw [HL.out]; exact hlt
      have hat := cellsS_at L k hkL
      have hc0 := (HW.out.cell (p := ⟨b, off + k * 3, none⟩) hbw).trans (hcell _ _ hat.1)
      have hc1 := (HW.out.cell (p := ⟨b, off + k * 3 + 1, none⟩) hbw).trans (hcell _ _ hat.2.1)
      have hc2 := (HW.out.cell (p := ⟨b, off + k * 3 + 2, none⟩) hbw).trans (hcell _ _ hat.2.2)
      have hy := HP.out _ (atP_mem L k hkL)
      have HSk := hide (HS.out k hkL)
      have hzA := HSz.out k
      generalize atP L k = y at *
      obtain ⟨y0, y1, y2⟩ := y
      obtain ⟨hy1, hy2, hy3⟩ := hy
      have hyp := hy1.pos
      dsimp only at hc0 hc1 hc2 HSk hy2 hy3 hyp
      have hzD := digs_size y1
      have HDx := hide (fun W => HD.out y1 W hyp (by omega))
      have hcv := conv_one wr y0
      have hz1 : Hid ((bytesA [UInt8.ofNat y0.toNat]).size = 1) := rfl
      have HBl := hide (fun o => belowThen HW.out (belowThen (below_alloc wr o) (Drew.below ⟨1, rfl⟩)))
      generalize bytesA ((L.take k).flatMap symT) = A at *
      generalize bytesA (digs y1) = D at *
      generalize bytesA [UInt8.ofNat y0.toNat] = E at *
      have h3 : wr.drew.cell? ⟨b, off + k * 3, none⟩ = some (.int .u8 y0) ∧ wr.drew.cell? ⟨b, off + k * 3 + 1, none⟩ = some (.int .i64 y1) ∧ wr.drew.cell? ⟨b, off + k * 3 + 2, none⟩ = some (.string y2) := ⟨hc0, hc1, hc2⟩
      have h3a : ∀ o, (wr.alloc o).drew.cell? ⟨b, off + k * 3, none⟩ = some (.int .u8 y0) ∧ (wr.alloc o).drew.cell? ⟨b, off + k * 3 + 1, none⟩ = some (.int .i64 y1) ∧ (wr.alloc o).drew.cell? ⟨b, off + k * 3 + 2, none⟩ = some (.string y2) := fun o => ⟨((below_alloc wr o).cell (block_lt_of_cell hc0)).trans hc0, ((below_alloc wr o).cell (block_lt_of_cell hc1)).trans hc1, ((below_alloc wr o).cell (block_lt_of_cell hc2)).trans hc2⟩
      have hk0 : (0 : Int) ≤ (k : Int) := by omega
      have hk1 : (k : Int) < (n : Int) := by omega
      have hzE : E.size = 1 := hz1.out
      have n1 : ¬ 9223372036854775807 < A.size + E.size := by omega
      have n2 : ¬ 9223372036854775807 < A.size + E.size + D.size := by omega
      have n3 : ¬ 9223372036854775807 < A.size + E.size + D.size + 1 := by omega
      have n4 : ¬ 9223372036854775807 < A.size + E.size + D.size + 1 + y2.size := by omega
      have n5 : ¬ 9223372036854775807 < A.size + E.size + D.size + 1 + y2.size + 1 := by omega
      clear hcell hat hy1 hzE
      go_wp2
      refine wp_region_held_drew (S := fun w' => w'.cell? ⟨b, off + k * 3, none⟩ = some (.int .u8 y0) ∧ w'.cell? ⟨b, off + k * 3 + 1, none⟩ = some (.int .i64 y1) ∧ w'.cell? ⟨b, off + k * 3 + 2, none⟩ = some (.string y2)) (by kernel_rfl) h3 (fun hHeld => ?_)
      refine wpAnyH_take (i := 0) (oi := { dst := some 11, op := Op.move (Operand.tmp 3), type := 9, pos := "text.go:245", after := #[], guard := none }) (v := ?_) rfl (by kernel_rfl) (by kernel_rfl) (by kernel_rfl) (fun _ _ _ h => h) (Or.inl ⟨by rfl, ?_⟩) (by assumption) ?_
      rotate_left
      · (intro w0 hSw; (try dsimp only at hSw); go_simp; try with_reducible rfl)
      try simp only [Act.put, List.setIfInBounds_toArray, List.set_cons_zero, List.set_cons_succ]
      refine wpAnyH_take (i := 1) (oi := { dst := some 12, op := Op.move (Operand.tmp 0), type := 27, pos := "text.go:245", after := #[], guard := none }) (v := ?_) rfl (by kernel_rfl) (by kernel_rfl) (by kernel_rfl) (fun _ _ _ h => h) (Or.inl ⟨by rfl, ?_⟩) (by assumption) ?_
      rotate_left
      · (intro w0 hSw; (try dsimp only at hSw); go_simp; try with_reducible rfl)
      try simp only [Act.put, List.setIfInBounds_toArray, List.set_cons_zero, List.set_cons_succ]
      refine wpAnyH_take (i := 2) (oi := { dst := some 13, op := Op.move (Operand.tmp 4), type := 3, pos := "text.go:245", after := #[], guard := none }) (v := ?_) rfl (by kernel_rfl) (by kernel_rfl) (by kernel_rfl) (fun _ _ _ h => h) (Or.inl ⟨by rfl, ?_⟩) (by assumption) ?_
      rotate_left
      · (intro w0 hSw; (try dsimp only at hSw); go_simp; try with_reducible rfl)
      try simp only [Act.put, List.setIfInBounds_toArray, List.set_cons_zero, List.set_cons_succ]
      refine wpAnyH_take (i := 3) (oi := { dst := some 14, op := Op.indexAddr 27 (Operand.tmp 12) (Operand.tmp 13), type := 0, pos := "text.go:245", after := #[{ on := 1, ground := Ground.data }, { on := 2, ground := Ground.data }], guard := none }) (v := ?_) rfl (by kernel_rfl) (by kernel_rfl) (by kernel_rfl) (fun _ _ _ h => h) (Or.inl ⟨by rfl, ?_⟩) (by assumption) ?_
      rotate_left
      · (intro w0 hSw; (try dsimp only at hSw); go_simp; try with_reducible rfl)
      try simp only [Act.put, List.setIfInBounds_toArray, List.set_cons_zero, List.set_cons_succ]
      refine wpAnyH_take (i := 4) (oi := { dst := some 15, op := Op.fieldAddr 77 (Operand.tmp 14) 0, type := 0, pos := "text.go:245", after := #[{ on := 3, ground := Ground.data }], guard := none }) (v := ?_) rfl (by kernel_rfl) (by kernel_rfl) (by kernel_rfl) (fun _ _ _ h => h) (Or.inl ⟨by rfl, ?_⟩) (by assumption) ?_
      rotate_left
      · (intro w0 hSw; (try dsimp only at hSw); go_simp; try with_reducible rfl)
      try simp only [Act.put, List.setIfInBounds_toArray, List.set_cons_zero, List.set_cons_succ]
      refine wpAnyH_take (i := 5) (oi := { dst := some 16, op := Op.load 5 (Operand.tmp 15), type := 5, pos := "text.go:245", after := #[{ on := 4, ground := Ground.data }], guard := none }) (v := ?_) rfl (by kernel_rfl) (by kernel_rfl) (by kernel_rfl) (fun _ _ _ h => h) (Or.inl ⟨by rfl, ?_⟩) (by assumption) ?_
      rotate_left
      · (intro w0 hSw; (try dsimp only at hSw); go_simp; try with_reducible rfl)
      try simp only [Act.put, List.setIfInBounds_toArray, List.set_cons_zero, List.set_cons_succ]
      refine wpAnyH_take (i := 9) (oi := { dst := some 20, op := Op.move (Operand.tmp 0), type := 27, pos := "text.go:245", after := #[], guard := none }) (v := ?_) rfl (by kernel_rfl) (by kernel_rfl) (by kernel_rfl) (fun _ _ _ h => h) (Or.inl ⟨by rfl, ?_⟩) (by assumption) ?_
      rotate_left
      · (intro w0 hSw; (try dsimp only at hSw); go_simp; try with_reducible rfl)
      try simp only [Act.put, List.setIfInBounds_toArray, List.set_cons_zero, List.set_cons_succ]
      refine wpAnyH_take (i := 10) (oi := { dst := some 21, op := Op.move (Operand.tmp 4), type := 3, pos := "text.go:245", after := #[], guard := none }) (v := ?_) rfl (by kernel_rfl) (by kernel_rfl) (by kernel_rfl) (fun _ _ _ h => h) (Or.inl ⟨by rfl, ?_⟩) (by assumption) ?_
      rotate_left
      · (intro w0 hSw; (try dsimp only at hSw); go_simp; try with_reducible rfl)
      try simp only [Act.put, List.setIfInBounds_toArray, List.set_cons_zero, List.set_cons_succ]
      refine wpAnyH_take (i := 11) (oi := { dst := some 22, op := Op.indexAddr 27 (Operand.tmp 20) (Operand.tmp 21), type := 0, pos := "text.go:245", after := #[{ on := 9, ground := Ground.data }, { on := 10, ground := Ground.data }], guard := none }) (v := ?_) rfl (by kernel_rfl) (by kernel_rfl) (by kernel_rfl) (fun _ _ _ h => h) (Or.inl ⟨by rfl, ?_⟩) (by assumption) ?_
      rotate_left
      · (intro w0 hSw; (try dsimp only at hSw); go_simp; try with_reducible rfl)
      try simp only [Act.put, List.setIfInBounds_toArray, List.set_cons_zero, List.set_cons_succ]
      refine wpAnyH_take (i := 12) (oi := { dst := some 23, op := Op.fieldAddr 77 (Operand.tmp 22) 1, type := 0, pos := "text.go:245", after := #[{ on := 11, ground := Ground.data }], guard := none }) (v := ?_) rfl (by kernel_rfl) (by kernel_rfl) (by kernel_rfl) (fun _ _ _ h => h) (Or.inl ⟨by rfl, ?_⟩) (by assumption) ?_
      rotate_left
      · (intro w0 hSw; (try dsimp only at hSw); go_simp; try with_reducible rfl)
      try simp only [Act.put, List.setIfInBounds_toArray, List.set_cons_zero, List.set_cons_succ]
      refine wpAnyH_take (i := 13) (oi := { dst := some 24, op := Op.load 3 (Operand.tmp 23), type := 3, pos := "text.go:245", after := #[{ on := 12, ground := Ground.data }], guard := none }) (v := ?_) rfl (by kernel_rfl) (by kernel_rfl) (by kernel_rfl) (fun _ _ _ h => h) (Or.inl ⟨by rfl, ?_⟩) (by assumption) ?_
      rotate_left
      · (intro w0 hSw; (try dsimp only at hSw); go_simp; try with_reducible rfl)
      try simp only [Act.put, List.setIfInBounds_toArray, List.set_cons_zero, List.set_cons_succ]
      refine wpAnyH_take (i := 17) (oi := { dst := some 28, op := Op.move (Operand.tmp 0), type := 27, pos := "text.go:245", after := #[], guard := none }) (v := ?_) rfl (by kernel_rfl) (by kernel_rfl) (by kernel_rfl) (fun _ _ _ h => h) (Or.inl ⟨by rfl, ?_⟩) (by assumption) ?_
      rotate_left
      · (intro w0 hSw; (try dsimp only at hSw); go_simp; try with_reducible rfl)
      try simp only [Act.put, List.setIfInBounds_toArray, List.set_cons_zero, List.set_cons_succ]
      refine wpAnyH_take (i := 18) (oi := { dst := some 29, op := Op.move (Operand.tmp 4), type := 3, pos := "text.go:245", after := #[], guard := none }) (v := ?_) rfl (by kernel_rfl) (by kernel_rfl) (by kernel_rfl) (fun _ _ _ h => h) (Or.inl ⟨by rfl, ?_⟩) (by assumption) ?_
      rotate_left
      · (intro w0 hSw; (try dsimp only at hSw); go_simp; try with_reducible rfl)
      try simp only [Act.put, List.setIfInBounds_toArray, List.set_cons_zero, List.set_cons_succ]
      refine wpAnyH_take (i := 19) (oi := { dst := some 30, op := Op.indexAddr 27 (Operand.tmp 28) (Operand.tmp 29), type := 0, pos := "text.go:245", after := #[{ on := 17, ground := Ground.data }, { on := 18, ground := Ground.data }], guard := none }) (v := ?_) rfl (by kernel_rfl) (by kernel_rfl) (by kernel_rfl) (fun _ _ _ h => h) (Or.inl ⟨by rfl, ?_⟩) (by assumption) ?_
      rotate_left
      · (intro w0 hSw; (try dsimp only at hSw); go_simp; try with_reducible rfl)
      try simp only [Act.put, List.setIfInBounds_toArray, List.set_cons_zero, List.set_cons_succ]
      refine wpAnyH_take (i := 20) (oi := { dst := some 31, op := Op.fieldAddr 77 (Operand.tmp 30) 2, type := 0, pos := "text.go:245", after := #[{ on := 19, ground := Ground.data }], guard := none }) (v := ?_) rfl (by kernel_rfl) (by kernel_rfl) (by kernel_rfl) (fun _ _ _ h => h) (Or.inl ⟨by rfl, ?_⟩) (by assumption) ?_
      rotate_left
      · (intro w0 hSw; (try dsimp only at hSw); go_simp; try with_reducible rfl)
      try simp only [Act.put, List.setIfInBounds_toArray, List.set_cons_zero, List.set_cons_succ]
      refine wpAnyH_take (i := 21) (oi := { dst := some 32, op := Op.load 9 (Operand.tmp 31), type := 9, pos := "text.go:245", after := #[{ on := 20, ground := Ground.data }], guard := none }) (v := ?_) rfl (by kernel_rfl) (by kernel_rfl) (by kernel_rfl) (fun _ _ _ h => h) (Or.inl ⟨by rfl, ?_⟩) (by assumption) ?_
      rotate_left
      · (intro w0 hSw; (try dsimp only at hSw); go_simp; try with_reducible rfl)
      try simp only [Act.put, List.setIfInBounds_toArray, List.set_cons_zero, List.set_cons_succ]
      refine wpAnyH_ready (rs := [6, 14]) (by kernel_rfl) (by simp) ?_
      refine AllReadyH.cons (o := { dst := some 17, op := Op.buildSlice 22 1 #[(0, Operand.tmp 16)], type := 22, pos := "text.go:245", after := #[{ on := 5, ground := Ground.data }], guard := none }) rfl (fun K hK => ?_) ?_
      · skip
        go_simp
        refine hK.out _ _ ?_ (fun hHeld => ?_)
        · exact h3a _
        clear hK K
        try simp only [Act.put, List.setIfInBounds_toArray, List.set_cons_zero, List.set_cons_succ]
        refine wpAnyH_ready (rs := [7, 14]) (by kernel_rfl) (by simp) ?_
        refine AllReadyH.cons (o := { dst := some 18, op := Op.convert 22 9 (Operand.tmp 17), type := 9, pos := "text.go:245", after := #[{ on := 6, ground := Ground.data }], guard := none }) rfl (fun K hK => ?_) ?_
        · skip
          go_simp
          refine hK.out _ _ ?_ (fun hHeld => ?_)
          · exact h3a _
          clear hK K
          try simp only [Act.put, List.setIfInBounds_toArray, List.set_cons_zero, List.set_cons_succ]
          refine wpAnyH_take (i := 8) (oi := { dst := some 19, op := Op.binOp BinOp.add 9 (Operand.tmp 11) (Operand.tmp 18) 9, type := 9, pos := "text.go:245", after := #[{ on := 0, ground := Ground.data }, { on := 7, ground := Ground.data }], guard := none }) (v := ?_) rfl (by kernel_rfl) (by kernel_rfl) (by kernel_rfl) (fun _ _ _ h => h) (Or.inl ⟨by rfl, ?_⟩) (by assumption) ?_
          rotate_left
          · (intro w0 hSw; (try dsimp only at hSw); go_simp; try with_reducible rfl)
          try simp only [Act.put, List.setIfInBounds_toArray, List.set_cons_zero, List.set_cons_succ]
          refine wpAnyH_ready (rs := [14]) (by kernel_rfl) (by simp) ?_
          refine AllReadyH.cons (o := { dst := some 25, op := Op.call { callee := Callee.value (Operand.func 26), args := #[Operand.tmp 24], argTypes := #[3] }, type := 9, pos := "text.go:245", after := #[{ on := 13, ground := Ground.data }], guard := none }) rfl (fun K hK => ?_) ?_
          · skip
            go_simp
            refine (HDx.out _).mono ?_
            rintro e w5 ⟨rfl, hw5⟩
            obtain rfl := hw5.symm
            go_wp2_with fail
            refine hK.out _ _ ?_ (fun hHeld => ?_)
            · exact h3a _
            clear hK K
            try simp only [Act.put, List.setIfInBounds_toArray, List.set_cons_zero, List.set_cons_succ]
            refine wpAnyH_take (i := 15) (oi := { dst := some 26, op := Op.binOp BinOp.add 9 (Operand.tmp 19) (Operand.tmp 25) 9, type := 9, pos := "text.go:245", after := #[{ on := 8, ground := Ground.data }, { on := 14, ground := Ground.data }], guard := none }) (v := ?_) rfl (by kernel_rfl) (by kernel_rfl) (by kernel_rfl) (fun _ _ _ h => h) (Or.inl ⟨by rfl, ?_⟩) (by assumption) ?_
            rotate_left
            · (intro w0 hSw; (try dsimp only at hSw); go_simp; try with_reducible rfl)
            try simp only [Act.put, List.setIfInBounds_toArray, List.set_cons_zero, List.set_cons_succ]
            refine wpAnyH_take (i := 16) (oi := { dst := some 27, op := Op.binOp BinOp.add 9 (Operand.tmp 26) (Operand.const (Value.string { data := #[32] })) 9, type := 9, pos := "text.go:245", after := #[{ on := 15, ground := Ground.data }], guard := none }) (v := ?_) rfl (by kernel_rfl) (by kernel_rfl) (by kernel_rfl) (fun _ _ _ h => h) (Or.inl ⟨by rfl, ?_⟩) (by assumption) ?_
            rotate_left
            · (intro w0 hSw; (try dsimp only at hSw); go_simp; try with_reducible rfl)
            try simp only [Act.put, List.setIfInBounds_toArray, List.set_cons_zero, List.set_cons_succ]
            refine wpAnyH_take (i := 22) (oi := { dst := some 33, op := Op.binOp BinOp.add 9 (Operand.tmp 27) (Operand.tmp 32) 9, type := 9, pos := "text.go:245", after := #[{ on := 16, ground := Ground.data }, { on := 21, ground := Ground.data }], guard := none }) (v := ?_) rfl (by kernel_rfl) (by kernel_rfl) (by kernel_rfl) (fun _ _ _ h => h) (Or.inl ⟨by rfl, ?_⟩) (by assumption) ?_
            rotate_left
            · (intro w0 hSw; (try dsimp only at hSw); go_simp; try with_reducible rfl)
            try simp only [Act.put, List.setIfInBounds_toArray, List.set_cons_zero, List.set_cons_succ]
            refine wpAnyH_take (i := 23) (oi := { dst := some 34, op := Op.binOp BinOp.add 9 (Operand.tmp 33) (Operand.const (Value.string { data := #[10] })) 9, type := 9, pos := "text.go:245", after := #[{ on := 22, ground := Ground.data }], guard := none }) (v := ?_) rfl (by kernel_rfl) (by kernel_rfl) (by kernel_rfl) (fun _ _ _ h => h) (Or.inl ⟨by rfl, ?_⟩) (by assumption) ?_
            rotate_left
            · (intro w0 hSw; (try dsimp only at hSw); go_simp; try with_reducible rfl)
            try simp only [Act.put, List.setIfInBounds_toArray, List.set_cons_zero, List.set_cons_succ]
            refine wpAnyH_ready (rs := [24]) (by kernel_rfl) (by simp) ?_
            refine AllReadyH.cons (o := { dst := some 3, op := Op.assign (Operand.tmp 34), type := 9, pos := "text.go:245", after := #[{ on := 23, ground := Ground.data }, { on := 14, ground := Ground.chain }, { on := 0, ground := Ground.phase }, { on := 1, ground := Ground.phase }, { on := 2, ground := Ground.phase }, { on := 3, ground := Ground.phase }, { on := 4, ground := Ground.phase }, { on := 5, ground := Ground.phase }, { on := 6, ground := Ground.phase }, { on := 7, ground := Ground.phase }, { on := 8, ground := Ground.phase }, { on := 9, ground := Ground.phase }, { on := 10, ground := Ground.phase }, { on := 11, ground := Ground.phase }, { on := 12, ground := Ground.phase }, { on := 13, ground := Ground.phase }, { on := 14, ground := Ground.phase }, { on := 15, ground := Ground.phase }, { on := 16, ground := Ground.phase }, { on := 17, ground := Ground.phase }, { on := 18, ground := Ground.phase }, { on := 19, ground := Ground.phase }, { on := 20, ground := Ground.phase }, { on := 21, ground := Ground.phase }, { on := 22, ground := Ground.phase }, { on := 23, ground := Ground.phase }], guard := none }) rfl (fun K hK => ?_) ?_
            · skip
              go_simp
              refine hK.out _ _ ?_ (fun hHeld => ?_)
              · exact h3a _
              clear hK K
              try simp only [Act.put, List.setIfInBounds_toArray, List.set_cons_zero, List.set_cons_succ]
              refine wpAnyH_done (by kernel_rfl) ?_ _
              clear h3 h3a hcv hHeld
              go_wp2
              go_roundw
              case rel => exact ⟨k + 1, by go_num, by omega, congrArg Value.string HSk.out, HBl.out _⟩
              case measure => simp [intOf]; omega
            exact AllReadyH.nil
          exact AllReadyH.nil
        refine AllReadyH.cons (o := { dst := some 25, op := Op.call { callee := Callee.value (Operand.func 26), args := #[Operand.tmp 24], argTypes := #[3] }, type := 9, pos := "text.go:245", after := #[{ on := 13, ground := Ground.data }], guard := none }) rfl (fun K hK => ?_) ?_
        · skip
          go_simp
          refine (HDx.out _).mono ?_
          rintro e w5 ⟨rfl, hw5⟩
          obtain rfl := hw5.symm
          go_wp2_with fail
          refine hK.out _ _ ?_ (fun hHeld => ?_)
          · exact h3a _
          clear hK K
          try simp only [Act.put, List.setIfInBounds_toArray, List.set_cons_zero, List.set_cons_succ]
          refine wpAnyH_ready (rs := [7]) (by kernel_rfl) (by simp) ?_
          refine AllReadyH.cons (o := { dst := some 18, op := Op.convert 22 9 (Operand.tmp 17), type := 9, pos := "text.go:245", after := #[{ on := 6, ground := Ground.data }], guard := none }) rfl (fun K hK => ?_) ?_
          · skip
            go_simp
            refine hK.out _ _ ?_ (fun hHeld => ?_)
            · exact h3a _
            clear hK K
            try simp only [Act.put, List.setIfInBounds_toArray, List.set_cons_zero, List.set_cons_succ]
            refine wpAnyH_take (i := 8) (oi := { dst := some 19, op := Op.binOp BinOp.add 9 (Operand.tmp 11) (Operand.tmp 18) 9, type := 9, pos := "text.go:245", after := #[{ on := 0, ground := Ground.data }, { on := 7, ground := Ground.data }], guard := none }) (v := ?_) rfl (by kernel_rfl) (by kernel_rfl) (by kernel_rfl) (fun _ _ _ h => h) (Or.inl ⟨by rfl, ?_⟩) (by assumption) ?_
            rotate_left
            · (intro w0 hSw; (try dsimp only at hSw); go_simp; try with_reducible rfl)
            try simp only [Act.put, List.setIfInBounds_toArray, List.set_cons_zero, List.set_cons_succ]
            refine wpAnyH_take (i := 15) (oi := { dst := some 26, op := Op.binOp BinOp.add 9 (Operand.tmp 19) (Operand.tmp 25) 9, type := 9, pos := "text.go:245", after := #[{ on := 8, ground := Ground.data }, { on := 14, ground := Ground.data }], guard := none }) (v := ?_) rfl (by kernel_rfl) (by kernel_rfl) (by kernel_rfl) (fun _ _ _ h => h) (Or.inl ⟨by rfl, ?_⟩) (by assumption) ?_
            rotate_left
            · (intro w0 hSw; (try dsimp only at hSw); go_simp; try with_reducible rfl)
            try simp only [Act.put, List.setIfInBounds_toArray, List.set_cons_zero, List.set_cons_succ]
            refine wpAnyH_take (i := 16) (oi := { dst := some 27, op := Op.binOp BinOp.add 9 (Operand.tmp 26) (Operand.const (Value.string { data := #[32] })) 9, type := 9, pos := "text.go:245", after := #[{ on := 15, ground := Ground.data }], guard := none }) (v := ?_) rfl (by kernel_rfl) (by kernel_rfl) (by kernel_rfl) (fun _ _ _ h => h) (Or.inl ⟨by rfl, ?_⟩) (by assumption) ?_
            rotate_left
            · (intro w0 hSw; (try dsimp only at hSw); go_simp; try with_reducible rfl)
            try simp only [Act.put, List.setIfInBounds_toArray, List.set_cons_zero, List.set_cons_succ]
            refine wpAnyH_take (i := 22) (oi := { dst := some 33, op := Op.binOp BinOp.add 9 (Operand.tmp 27) (Operand.tmp 32) 9, type := 9, pos := "text.go:245", after := #[{ on := 16, ground := Ground.data }, { on := 21, ground := Ground.data }], guard := none }) (v := ?_) rfl (by kernel_rfl) (by kernel_rfl) (by kernel_rfl) (fun _ _ _ h => h) (Or.inl ⟨by rfl, ?_⟩) (by assumption) ?_
            rotate_left
            · (intro w0 hSw; (try dsimp only at hSw); go_simp; try with_reducible rfl)
            try simp only [Act.put, List.setIfInBounds_toArray, List.set_cons_zero, List.set_cons_succ]
            refine wpAnyH_take (i := 23) (oi := { dst := some 34, op := Op.binOp BinOp.add 9 (Operand.tmp 33) (Operand.const (Value.string { data := #[10] })) 9, type := 9, pos := "text.go:245", after := #[{ on := 22, ground := Ground.data }], guard := none }) (v := ?_) rfl (by kernel_rfl) (by kernel_rfl) (by kernel_rfl) (fun _ _ _ h => h) (Or.inl ⟨by rfl, ?_⟩) (by assumption) ?_
            rotate_left
            · (intro w0 hSw; (try dsimp only at hSw); go_simp; try with_reducible rfl)
            try simp only [Act.put, List.setIfInBounds_toArray, List.set_cons_zero, List.set_cons_succ]
            refine wpAnyH_ready (rs := [24]) (by kernel_rfl) (by simp) ?_
            refine AllReadyH.cons (o := { dst := some 3, op := Op.assign (Operand.tmp 34), type := 9, pos := "text.go:245", after := #[{ on := 23, ground := Ground.data }, { on := 14, ground := Ground.chain }, { on := 0, ground := Ground.phase }, { on := 1, ground := Ground.phase }, { on := 2, ground := Ground.phase }, { on := 3, ground := Ground.phase }, { on := 4, ground := Ground.phase }, { on := 5, ground := Ground.phase }, { on := 6, ground := Ground.phase }, { on := 7, ground := Ground.phase }, { on := 8, ground := Ground.phase }, { on := 9, ground := Ground.phase }, { on := 10, ground := Ground.phase }, { on := 11, ground := Ground.phase }, { on := 12, ground := Ground.phase }, { on := 13, ground := Ground.phase }, { on := 14, ground := Ground.phase }, { on := 15, ground := Ground.phase }, { on := 16, ground := Ground.phase }, { on := 17, ground := Ground.phase }, { on := 18, ground := Ground.phase }, { on := 19, ground := Ground.phase }, { on := 20, ground := Ground.phase }, { on := 21, ground := Ground.phase }, { on := 22, ground := Ground.phase }, { on := 23, ground := Ground.phase }], guard := none }) rfl (fun K hK => ?_) ?_
            · skip
              go_simp
              refine hK.out _ _ ?_ (fun hHeld => ?_)
              · exact h3a _
              clear hK K
              try simp only [Act.put, List.setIfInBounds_toArray, List.set_cons_zero, List.set_cons_succ]
              refine wpAnyH_done (by kernel_rfl) ?_ _
              clear h3 h3a hcv hHeld
              go_wp2
              go_roundw
              case rel => exact ⟨k + 1, by go_num, by omega, congrArg Value.string HSk.out, HBl.out _⟩
              case measure => simp [intOf]; omega
            exact AllReadyH.nil
          exact AllReadyH.nil
        exact AllReadyH.nil
      refine AllReadyH.cons (o := { dst := some 25, op := Op.call { callee := Callee.value (Operand.func 26), args := #[Operand.tmp 24], argTypes := #[3] }, type := 9, pos := "text.go:245", after := #[{ on := 13, ground := Ground.data }], guard := none }) rfl (fun K hK => ?_) ?_
      · skip
        go_simp
        refine (HDx.out _).mono ?_
        rintro e w5 ⟨rfl, hw5⟩
        obtain rfl := hw5.symm
        go_wp2_with fail
        refine hK.out _ _ ?_ (fun hHeld => ?_)
        · exact h3
        clear hK K
        try simp only [Act.put, List.setIfInBounds_toArray, List.set_cons_zero, List.set_cons_succ]
        refine wpAnyH_ready (rs := [6]) (by kernel_rfl) (by simp) ?_
        refine AllReadyH.cons (o := { dst := some 17, op := Op.buildSlice 22 1 #[(0, Operand.tmp 16)], type := 22, pos := "text.go:245", after := #[{ on := 5, ground := Ground.data }], guard := none }) rfl (fun K hK => ?_) ?_
        · skip
          go_simp
          refine hK.out _ _ ?_ (fun hHeld => ?_)
          · exact h3a _
          clear hK K
          try simp only [Act.put, List.setIfInBounds_toArray, List.set_cons_zero, List.set_cons_succ]
          refine wpAnyH_ready (rs := [7]) (by kernel_rfl) (by simp) ?_
          refine AllReadyH.cons (o := { dst := some 18, op := Op.convert 22 9 (Operand.tmp 17), type := 9, pos := "text.go:245", after := #[{ on := 6, ground := Ground.data }], guard := none }) rfl (fun K hK => ?_) ?_
          · skip
            go_simp
            refine hK.out _ _ ?_ (fun hHeld => ?_)
            · exact h3a _
            clear hK K
            try simp only [Act.put, List.setIfInBounds_toArray, List.set_cons_zero, List.set_cons_succ]
            refine wpAnyH_take (i := 8) (oi := { dst := some 19, op := Op.binOp BinOp.add 9 (Operand.tmp 11) (Operand.tmp 18) 9, type := 9, pos := "text.go:245", after := #[{ on := 0, ground := Ground.data }, { on := 7, ground := Ground.data }], guard := none }) (v := ?_) rfl (by kernel_rfl) (by kernel_rfl) (by kernel_rfl) (fun _ _ _ h => h) (Or.inl ⟨by rfl, ?_⟩) (by assumption) ?_
            rotate_left
            · (intro w0 hSw; (try dsimp only at hSw); go_simp; try with_reducible rfl)
            try simp only [Act.put, List.setIfInBounds_toArray, List.set_cons_zero, List.set_cons_succ]
            refine wpAnyH_take (i := 15) (oi := { dst := some 26, op := Op.binOp BinOp.add 9 (Operand.tmp 19) (Operand.tmp 25) 9, type := 9, pos := "text.go:245", after := #[{ on := 8, ground := Ground.data }, { on := 14, ground := Ground.data }], guard := none }) (v := ?_) rfl (by kernel_rfl) (by kernel_rfl) (by kernel_rfl) (fun _ _ _ h => h) (Or.inl ⟨by rfl, ?_⟩) (by assumption) ?_
            rotate_left
            · (intro w0 hSw; (try dsimp only at hSw); go_simp; try with_reducible rfl)
            try simp only [Act.put, List.setIfInBounds_toArray, List.set_cons_zero, List.set_cons_succ]
            refine wpAnyH_take (i := 16) (oi := { dst := some 27, op := Op.binOp BinOp.add 9 (Operand.tmp 26) (Operand.const (Value.string { data := #[32] })) 9, type := 9, pos := "text.go:245", after := #[{ on := 15, ground := Ground.data }], guard := none }) (v := ?_) rfl (by kernel_rfl) (by kernel_rfl) (by kernel_rfl) (fun _ _ _ h => h) (Or.inl ⟨by rfl, ?_⟩) (by assumption) ?_
            rotate_left
            · (intro w0 hSw; (try dsimp only at hSw); go_simp; try with_reducible rfl)
            try simp only [Act.put, List.setIfInBounds_toArray, List.set_cons_zero, List.set_cons_succ]
            refine wpAnyH_take (i := 22) (oi := { dst := some 33, op := Op.binOp BinOp.add 9 (Operand.tmp 27) (Operand.tmp 32) 9, type := 9, pos := "text.go:245", after := #[{ on := 16, ground := Ground.data }, { on := 21, ground := Ground.data }], guard := none }) (v := ?_) rfl (by kernel_rfl) (by kernel_rfl) (by kernel_rfl) (fun _ _ _ h => h) (Or.inl ⟨by rfl, ?_⟩) (by assumption) ?_
            rotate_left
            · (intro w0 hSw; (try dsimp only at hSw); go_simp; try with_reducible rfl)
            try simp only [Act.put, List.setIfInBounds_toArray, List.set_cons_zero, List.set_cons_succ]
            refine wpAnyH_take (i := 23) (oi := { dst := some 34, op := Op.binOp BinOp.add 9 (Operand.tmp 33) (Operand.const (Value.string { data := #[10] })) 9, type := 9, pos := "text.go:245", after := #[{ on := 22, ground := Ground.data }], guard := none }) (v := ?_) rfl (by kernel_rfl) (by kernel_rfl) (by kernel_rfl) (fun _ _ _ h => h) (Or.inl ⟨by rfl, ?_⟩) (by assumption) ?_
            rotate_left
            · (intro w0 hSw; (try dsimp only at hSw); go_simp; try with_reducible rfl)
            try simp only [Act.put, List.setIfInBounds_toArray, List.set_cons_zero, List.set_cons_succ]
            refine wpAnyH_ready (rs := [24]) (by kernel_rfl) (by simp) ?_
            refine AllReadyH.cons (o := { dst := some 3, op := Op.assign (Operand.tmp 34), type := 9, pos := "text.go:245", after := #[{ on := 23, ground := Ground.data }, { on := 14, ground := Ground.chain }, { on := 0, ground := Ground.phase }, { on := 1, ground := Ground.phase }, { on := 2, ground := Ground.phase }, { on := 3, ground := Ground.phase }, { on := 4, ground := Ground.phase }, { on := 5, ground := Ground.phase }, { on := 6, ground := Ground.phase }, { on := 7, ground := Ground.phase }, { on := 8, ground := Ground.phase }, { on := 9, ground := Ground.phase }, { on := 10, ground := Ground.phase }, { on := 11, ground := Ground.phase }, { on := 12, ground := Ground.phase }, { on := 13, ground := Ground.phase }, { on := 14, ground := Ground.phase }, { on := 15, ground := Ground.phase }, { on := 16, ground := Ground.phase }, { on := 17, ground := Ground.phase }, { on := 18, ground := Ground.phase }, { on := 19, ground := Ground.phase }, { on := 20, ground := Ground.phase }, { on := 21, ground := Ground.phase }, { on := 22, ground := Ground.phase }, { on := 23, ground := Ground.phase }], guard := none }) rfl (fun K hK => ?_) ?_
            · skip
              go_simp
              refine hK.out _ _ ?_ (fun hHeld => ?_)
              · exact h3a _
              clear hK K
              try simp only [Act.put, List.setIfInBounds_toArray, List.set_cons_zero, List.set_cons_succ]
              refine wpAnyH_done (by kernel_rfl) ?_ _
              clear h3 h3a hcv hHeld
              go_wp2
              go_roundw
              case rel => exact ⟨k + 1, by go_num, by omega, congrArg Value.string HSk.out, HBl.out _⟩
              case measure => simp [intOf]; omega
            exact AllReadyH.nil
          exact AllReadyH.nil
        exact AllReadyH.nil
      exact AllReadyH.nil
    · obtain rfl : k = n := by omega
      have hfin : Hid (Post (.returned (.string (bytesA ((L.take k).flatMap symT)))) wr) := by
        show Post _ _
        rw [← HPo.out, ← HE.out]
        exact ⟨rfl, HW.out⟩
      go_wp2
      exact hfin.out
end Go.Proofs.YtimpddokepbabaaGreatDoor
