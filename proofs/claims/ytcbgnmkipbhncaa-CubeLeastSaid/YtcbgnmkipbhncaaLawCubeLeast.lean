/-
  THE WALK of the law CubeLeast.
-/
import Derived.Test.YtcbgnmkipbhncaaRefLeast
import Derived.Test.YtcbgnmkipbhncaaLawCubeNots
namespace Go.Proofs.Ytcbgnmkipbhncaa
open Go.RowKit
set_option linter.unusedSectionVars false
variable [Inhabited El]

theorem cubeA_rt {s : List Int} (h : Rt s) : goodB s = true ∧ cubeA s = s := ⟨(goodB_iff s).2 (rt_good h), cubeA_eq (rt_good h) h.2 (fun _x => Iff.rfl)⟩

theorem rights_all {S : List (List Int)} (h : ∀ s ∈ S, Rt s) : ∀ n, n ≤ S.length → rights 0 (S.take n) = (List.range n).map fun (i : Nat) => ((i : Int), atP S i) := by
  intro n
  induction n with
  | zero => intro _; rfl
  | succ n ih =>
    intro hn
    have hm := atP_mem S n (by omega)
    obtain ⟨h1, h2⟩ := cubeA_rt (h _ hm)
    rw [List.take_succ_eq_append_getElem (by omega), rights_append, ih (by omega), ← atP_eq S n (by omega), List.range_succ, List.map_append]
    have e : (S.take n).length = n := by rw [List.length_take]; omega
    rw [e]
    simp only [rights, h1, h2, if_true, Int.zero_add]
    rfl

theorem least_again (ls : List (List Int)) : leastL (leastL ls) = leastL ls := by
  obtain ⟨S, hS⟩ : ∃ S, S = leastL ls := ⟨_, rfl⟩
  have hrt : ∀ s ∈ S, Rt s := fun s hs => by
    rw [hS] at hs
    obtain ⟨l, _, e⟩ := leastL_short s hs
    rw [e]
    exact ⟨cubeA_fits l, cubeA_up l⟩
  have hR := rights_all hrt S.length (Nat.le_refl _)
  rw [List.take_length] at hR
  rw [← hS]
  unfold leastL leastP
  have hall : (rights 0 S).filter (idealB (rights 0 S)) = rights 0 S := by
    rw [List.filter_eq_self]
    intro p hp
    rw [idealB_iff]
    intro q hq hh
    rw [hR] at hp hq
    obtain ⟨i, hi, rfl⟩ := List.mem_map.1 hp
    obtain ⟨k, hk, rfl⟩ := List.mem_map.1 hq
    simp only [List.mem_range] at hi hk
    have hsub : k ≠ i → withinB (atP S k) (atP S i) = false := fun hne => by rw [hS] at hi hk ⊢; exact least_apart hk hi hne
    rcases hh with ⟨e1, e2⟩ | ⟨e1, e2⟩
    · have hne : k ≠ i := fun e => by subst e; simp at e2
      have := hsub hne
      have e1' : atP S k = atP S i := e1
      rw [e1', within_self] at this
      cases this
    · have hne : k ≠ i := fun e => by subst e; exact e1 rfl
      have := hsub hne
      rw [(withinB_iff _ _).2 e2] at this
      cases this
  rw [hall, hR, List.map_map]
  refine List.ext_getElem (by simp) fun i h1 h2 => ?_
  simp
  rw [atP_eq S i h2]

theorem least_shorts {ls : List (List Int)} {m : Nat} (h : ∀ l ∈ ls, l.length ≤ m) : ∀ s ∈ leastL ls, s.length ≤ m := fun s hs => by
  obtain ⟨l, hl, e⟩ := leastL_short s hs
  rw [e]
  have := cubeA_len l
  have := h l hl
  omega

set_option maxRecDepth 100000 in
set_option maxHeartbeats 4000000 in
theorem cubeLeast_mid (a : Option Addr) (n c : Nat) (es : List El) (w : World) (hr : RowL w a es) (hx : es.length = n) (hn : n ≤ 40) (hok : ∀ e ∈ es, ElArg w e ∧ e.xs.length ≤ 60) (hbig : bigB (xsOf es) = false) :
    Calls Try.prog 6 #[.slice a n c] w fun e w' => e = .returned (.bool true) ∧ Below w.heap.size w w' := by
  have HR := hide (And.intro hr (And.intro hx hok))
  have HBg := hide hbig
  obtain ⟨ls, hls⟩ : ∃ ls, ls = xsOf es := ⟨_, rfl⟩
  have HLS : Hid (ls.length = n ∧ ∀ l ∈ ls, l.length ≤ 60) := ⟨by rw [hls]; simp [xsOf, hx], fun l hl => by rw [hls] at hl; obtain ⟨e, he, rfl⟩ := List.mem_map.1 hl; exact (hok e he).2⟩
  have HEQ := hide hls
  have hLs : Hid (∀ rs : List El, xsOf rs = leastL ls → rs.length ≤ 40 ∧ ∀ r ∈ rs, r.xs.length ≤ 60) := fun rs h => by
    have h1 := leastL_len ls
    have h2 : (xsOf rs).length = rs.length := by simp [xsOf]
    rw [h] at h2
    refine ⟨by have := HLS.out.1; omega, fun r hr => ?_⟩
    exact least_shorts HLS.out.2 r.xs (by rw [← h]; exact List.mem_map.2 ⟨r, hr, rfl⟩)
  clear hr hx hok hbig hls
  go_enter Try.func6, Try.ntmps6
  go_wp2_with (go_at_call 9; refine (alive_any _).mono ?_; rintro e w1 ⟨rfl, hb1⟩)
  have B1 := hide hb1
  clear hb1
  refine (big_any a n c es w1 (HR.out.1.below B1.out) HR.out.2.1 (by omega) (fun e he => by have := (HR.out.2.2 e he).2; omega)).mono ?_
  rintro e w2 ⟨he2, hw2⟩
  rw [HBg.out] at he2
  subst he2
  obtain rfl := hw2.symm
  go_wp2_with fail
  -- CopyLists(l)
  refine (copyLists_any a n c es w1 (HR.out.1.below B1.out) HR.out.2.1 (by omega) (fun e he => ⟨(HR.out.2.2 e he).1.below B1.out, by have := (HR.out.2.2 e he).2; omega⟩)).mono ?_
  rintro e w3 ⟨v3, cs, rfl, hown3, hb3, hoks3, hxs3⟩
  obtain ⟨a3, c3, rfl, hrow3, -, -⟩ := rowL_of_own hown3
  have B3 : Hid (Below w.heap.size w w3) := B1.out.trans (hb3.mono B1.out.size)
  rw [← HEQ.out] at hxs3
  have hcl : cs.length = n := by have : (xsOf cs).length = cs.length := by simp [xsOf]
                                 rw [hxs3] at this; have := HLS.out.1; omega
  have hcl2 : ∀ e ∈ cs, e.xs.length ≤ 60 := fun e he => HLS.out.2 e.xs (by rw [← hxs3]; exact List.mem_map.2 ⟨e, he, rfl⟩)
  have H3 := hide (And.intro hrow3 (And.intro hoks3 (And.intro hxs3 hcl2)))
  rw [hcl]
  have HCL := hide hcl
  clear hown3 hb3 hoks3 hxs3 hrow3 hcl hcl2
  go_wp2_with fail
  -- Least(copy)
  refine (least_any a3 n c3 cs w3 H3.out.1 HCL.out (by omega) (fun e he => ⟨(H3.out.2.1 e he).arg, by have := H3.out.2.2.2 e he; omega⟩)).mono ?_
  rintro e w4 ⟨v4, rs, rfl, hown4, hb4, hoks4, hxs4⟩
  obtain ⟨a4, c4, rfl, hrow4, -, -⟩ := rowL_of_own hown4
  have B4 : Hid (Below w.heap.size w w4) := B3.out.trans (hb4.mono B3.out.size)
  rw [H3.out.2.2.1] at hxs4
  have H4 := hide (And.intro hrow4 (And.intro hoks4 (And.intro hxs4 (hLs.out rs hxs4))))
  obtain ⟨q, HQ⟩ : ∃ q, Hid (q = rs.length) := ⟨_, rfl⟩
  have hq : q ≤ 40 := by rw [HQ.out]; exact H4.out.2.2.2.1
  rw [← HQ.out]
  clear hown4 hb4 hoks4 hxs4 hrow4
  go_wp2_with fail
  -- the reference's Least(l)
  refine (refLeast_any a n c es w4 (HR.out.1.below B4.out) HR.out.2.1 (by omega) (fun e he => ⟨(HR.out.2.2 e he).1.below B4.out, by have := (HR.out.2.2 e he).2; omega⟩)).mono ?_
  rintro e w5 ⟨v5, fs, rfl, hown5, hb5, hoks5, hxs5⟩
  obtain ⟨a5, c5, rfl, hrow5, -, -⟩ := rowL_of_own hown5
  have B5 : Hid (Below w.heap.size w w5) := B4.out.trans (hb5.mono B4.out.size)
  rw [← HEQ.out] at hxs5
  have H5 := hide (And.intro hrow5 (And.intro hoks5 (And.intro hxs5 (hLs.out fs hxs5))))
  obtain ⟨q5, HQ5⟩ : ∃ q5, Hid (q5 = fs.length) := ⟨_, rfl⟩
  have hq5 : q5 ≤ 40 := by rw [HQ5.out]; exact H5.out.2.2.2.1
  have R45 := hide (And.intro (H4.out.1.below hb5) (fun r hr => (H4.out.2.1 r hr).below hb5))
  rw [← HQ5.out]
  clear hown5 hb5 hoks5 hxs5 hrow5
  go_wp2_with fail
  refine (sameLists_any a4 a5 q c4 q5 c5 rs fs w5 R45.out.1 HQ.out.symm H5.out.1 HQ5.out.symm (by omega) (by omega) (fun r hr => ⟨R45.out.2 r hr, by have := H4.out.2.2.2.2 r hr; omega⟩) (fun r hr => ⟨H5.out.2.1 r hr, by have := H5.out.2.2.2.2 r hr; omega⟩)).mono ?_
  rintro e w6 ⟨he6, hd6⟩
  rw [decide_eq_true (H4.out.2.2.1.trans H5.out.2.2.1.symm)] at he6
  subst he6
  have B6 : Hid (Below w.heap.size w w6) := B5.out.trans (hd6.below.mono B5.out.size)
  have R46 := hide (And.intro (R45.out.1.below hd6.below) (fun r hr => (R45.out.2 r hr).below hd6.below))
  clear hd6
  go_wp2_with fail
  -- CopyLists(a)
  refine (copyLists_any a4 q c4 rs w6 R46.out.1 HQ.out.symm (by omega) (fun r hr => ⟨(R46.out.2 r hr).arg, by have := H4.out.2.2.2.2 r hr; omega⟩)).mono ?_
  rintro e w7 ⟨v7, ds, rfl, hown7, hb7, hoks7, hxs7⟩
  obtain ⟨a7, c7, rfl, hrow7, -, -⟩ := rowL_of_own hown7
  have B7 : Hid (Below w.heap.size w w7) := B6.out.trans (hb7.mono B6.out.size)
  rw [H4.out.2.2.1] at hxs7
  have H7 := hide (And.intro hrow7 (And.intro hoks7 (And.intro hxs7 (hLs.out ds hxs7))))
  have R47 := hide (And.intro (R46.out.1.below hb7) (fun r hr => (R46.out.2 r hr).below hb7))
  obtain ⟨q7, HQ7⟩ : ∃ q7, Hid (q7 = ds.length) := ⟨_, rfl⟩
  have hq7 : q7 ≤ 40 := by rw [HQ7.out]; exact H7.out.2.2.2.1
  rw [← HQ7.out]
  clear hown7 hb7 hoks7 hxs7 hrow7
  go_wp2_with fail
  refine (least_any a7 q7 c7 ds w7 H7.out.1 HQ7.out.symm (by omega) (fun r hr => ⟨(H7.out.2.1 r hr).arg, by have := H7.out.2.2.2.2 r hr; omega⟩)).mono ?_
  rintro e w8 ⟨v8, gs, rfl, hown8, hb8, hoks8, hxs8⟩
  obtain ⟨a8, c8, rfl, hrow8, -, -⟩ := rowL_of_own hown8
  have B8 : Hid (Below w.heap.size w w8) := B7.out.trans (hb8.mono B7.out.size)
  rw [H7.out.2.2.1, least_again] at hxs8
  have H8 := hide (And.intro hrow8 (And.intro hoks8 (And.intro hxs8 (hLs.out gs hxs8))))
  have R48 := hide (And.intro (R47.out.1.below hb8) (fun r hr => (R47.out.2 r hr).below hb8))
  obtain ⟨q8, HQ8⟩ : ∃ q8, Hid (q8 = gs.length) := ⟨_, rfl⟩
  have hq8 : q8 ≤ 40 := by rw [HQ8.out]; exact H8.out.2.2.2.1
  rw [← HQ8.out]
  clear hown8 hb8 hoks8 hxs8 hrow8
  go_wp2_with fail
  refine (sameLists_any a8 a4 q8 c8 q c4 gs rs w8 H8.out.1 HQ8.out.symm R48.out.1 HQ.out.symm (by omega) (by omega) (fun r hr => ⟨H8.out.2.1 r hr, by have := H8.out.2.2.2.2 r hr; omega⟩) (fun r hr => ⟨R48.out.2 r hr, by have := H4.out.2.2.2.2 r hr; omega⟩)).mono ?_
  rintro e w9 ⟨he9, hd9⟩
  rw [decide_eq_true (H8.out.2.2.1.trans H4.out.2.2.1.symm)] at he9
  subst he9
  have B9 : Hid (Below w.heap.size w w9) := B8.out.trans (hd9.below.mono B8.out.size)
  clear hd9
  go_wp2_with fail
  go_ret
  exact ⟨rfl, B9.out⟩

set_option maxHeartbeats 1000000 in
theorem cubeLeast_any (a : Option Addr) (len cap : Nat) (es : List El) (w : World) (hr : IsLists w a len cap es) :
    Calls Try.prog 6 #[.slice a len cap] w fun e w' => e = .returned (.bool true) ∧ Below w.heap.size w w' := by
  obtain ⟨r1, r2, r3, r4⟩ := hr
  cases hb : bigB (xsOf es) with
  | false =>
    obtain ⟨h1, h2⟩ := bigB_no hb
    exact cubeLeast_mid a len cap es w r1 r2 (by omega) (fun e he => ⟨(r4 e he).1, h2 e he⟩) hb
  | true =>
    have HB := hide (fun w1 (hb1 : Below w.heap.size w w1) => big_any a len cap es w1 (r1.below hb1) r2 r3 (fun e he => (r4 e he).2))
    rw [hb] at HB
    clear r1 r2 r4 hb
    go_enter Try.func6, Try.ntmps6
    go_wp2_with (first | (go_at_call 9; refine (alive_any _).mono ?_; rintro e w1 ⟨rfl, hb1⟩) | (go_at_call 24; refine (HB.out _ hb1).mono ?_; rintro e w2 ⟨rfl, hw2⟩; obtain rfl := hw2.symm))
    go_ret
    exact ⟨rfl, hb1⟩
end Go.Proofs.Ytcbgnmkipbhncaa
