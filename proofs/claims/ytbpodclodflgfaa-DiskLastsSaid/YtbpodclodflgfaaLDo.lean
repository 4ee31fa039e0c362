/-
  do of the law's text, and what it leaves alone.
-/
import Derived.Test.YtbpodclodflgfaaLLs
namespace Go.Proofs.Ytbpodclodflgfaa
open Go Go.RowKit
/-- Mine, and nothing but the disk was changed since wb. -/
structure MM (w0 wb w : World) (g : Nat) (D : Dk.Disk) : Prop where
  mine : Mine w0 w g D
  mv : Mv g wb w
section
variable {w0 wb w : World} {g : Nat} {D : Dk.Disk}
theorem MM.step {w' : World} {D' : Dk.Disk} (h : MM w0 wb w g D) (d : DiskAt w' g D') (m : Mv g w w') : MM w0 wb w' g D' := ⟨h.mine.step d m, h.mv.trans m⟩
theorem MM.quiet {w' : World} (h : MM w0 wb w g D) (hb : Below w.heap.size w w') : MM w0 wb w' g D := h.step (h.mine.at_.below hb).1 (h.mine.at_.below hb).2
theorem MM.alloc (h : MM w0 wb w g D) (o : Obj) : MM w0 wb (w.alloc o) g D := h.quiet (below_new w o)
theorem mm_write (h : MM w0 wb w g D) (f at_ : Int) (h0 : -9223372036854775808 ≤ at_) (h1 : at_ ≤ 9223372036854775807) (s : ByteArray) (hs : s.size ≤ 1000000) (hq : D.queue.length + s.size ≤ 1000000) : Calls Try.prog 12 #[.pointer (some ⟨g, 0, none⟩), .int .i64 f, .int .i64 at_, .string s] w fun e w' => e = .returned (.int .i64 (Dk.ec (Dk.write D f at_ s.data.toList).1)) ∧ MM w0 wb w' g (Dk.write D f at_ s.data.toList).2 :=
  (write_any g D f at_ h0 h1 s hs hq w h.mine.at_).mono fun _ _ ⟨a, b, c⟩ => ⟨a, h.step b c⟩
theorem mm_read (h : MM w0 wb w g D) (f : Int) : Calls Try.prog 23 #[.pointer (some ⟨g, 0, none⟩), .int .i64 f] w fun e w' => e = .returned (.tuple #[.string (enc (Dk.readE D f).1), .int .i64 (Dk.ec (Dk.readE D f).2)]) ∧ MM w0 wb w' g D :=
  (read_any g D f w h.mine.at_).mono fun _ _ ⟨a, b⟩ => ⟨a, h.quiet b⟩
theorem mm_flush (h : MM w0 wb w g D) (f : Int) : Calls Try.prog 29 #[.pointer (some ⟨g, 0, none⟩), .int .i64 f] w fun e w' => e = .returned (.int .i64 (Dk.ec (Dk.flush D f).1)) ∧ MM w0 wb w' g (Dk.flush D f).2 :=
  (flush_any g D f w h.mine.at_).mono fun _ _ ⟨a, b, c⟩ => ⟨a, h.step b c⟩
theorem mm_cut (h : MM w0 wb w g D) (f n : Int) : Calls Try.prog 32 #[.pointer (some ⟨g, 0, none⟩), .int .i64 f, .int .i64 n] w fun e w' => e = .returned (.int .i64 (Dk.ec (Dk.cut D f n).1)) ∧ MM w0 wb w' g (Dk.cut D f n).2 :=
  (cut_any g D f n w h.mine.at_).mono fun _ _ ⟨a, b, c⟩ => ⟨a, h.step b c⟩
theorem mm_turn (h : MM w0 wb w g D) (f n : Int) : Calls Try.prog 31 #[.pointer (some ⟨g, 0, none⟩), .int .i64 f, .int .i64 n] w fun e w' => e = .returned (.int .i64 (Dk.ec (Dk.turn D f n).1)) ∧ MM w0 wb w' g (Dk.turn D f n).2 :=
  (turn_any g D f n w h.mine.at_).mono fun _ _ ⟨a, b, c⟩ => ⟨a, h.step b c⟩
theorem mm_start (h : MM w0 wb w g D) : Calls Try.prog 21 #[.pointer (some ⟨g, 0, none⟩)] w fun e w' => (∃ v, e = .returned v) ∧ MM w0 wb w' g (Dk.start D) :=
  by
  obtain ⟨vs, q, k, hv⟩ := h.mine.at_
  exact (start_any g vs q k D w hv).mono fun _ _ ⟨a, b, c⟩ => ⟨a, h.step ⟨_, _, _, b⟩ c⟩
theorem mm_lose (h : MM w0 wb w g D) (n : Int) (hn : n ≤ 9223372036854775807) : Calls Try.prog 30 #[.pointer (some ⟨g, 0, none⟩), .int .i64 n] w fun e w' => (∃ v, e = .returned v) ∧ MM w0 wb w' g (Dk.lose D n) :=
  by
  obtain ⟨vs, q, k, hv⟩ := h.mine.at_
  exact (lose_any g vs q k D n w hv hn).mono fun _ _ ⟨a, b, c⟩ => ⟨a, h.step ⟨_, _, _, b⟩ c⟩
theorem mm_crash_nil (h : MM w0 wb w g D) : Calls Try.prog 13 #[.pointer (some ⟨g, 0, none⟩), .slice none 0 0] w fun e w' => (∃ v, e = .returned v) ∧ MM w0 wb w' g (Dk.crash D []) :=
  (crash_any g D none 0 0 0 0 [] w h.mine.at_ (ir_empty w none) rfl (fun hp => by cases hp)).mono fun _ _ ⟨a, b, c⟩ => ⟨a, h.step b c⟩
theorem mm_arm_nil (h : MM w0 wb w g D) (n : Int) (hn : n ≤ 9223372036854775807) : Calls Try.prog 27 #[.pointer (some ⟨g, 0, none⟩), .int .i64 n, .slice none 0 0] w fun e w' => (∃ v, e = .returned v) ∧ MM w0 wb w' g (Dk.arm D n []) :=
  (arm_any g D n hn none 0 0 0 0 [] w h.mine.at_ (ir_empty w none) rfl (fun _ => rfl) (by omega)).mono fun _ _ ⟨a, b, c⟩ => ⟨a, h.step b c⟩
theorem mm_crash_arg (h : MM w0 wb w g D) (a : Option Addr) (b off n cap : Nat) (ks : List Int) (hk : IR w0 a b off ks) (hn : ks.length = n) : Calls Try.prog 13 #[.pointer (some ⟨g, 0, none⟩), .slice a n cap] w fun e w' => (∃ v, e = .returned v) ∧ MM w0 wb w' g (Dk.crash D ks) :=
  (crash_any g D a b off n cap ks w h.mine.at_ (hk.below h.mine.below) hn (fun hp hf => by have := h.mine.foot b hf; have := hk.lt hp; omega)).mono fun _ _ ⟨x, y, z⟩ => ⟨x, h.step y z⟩
theorem mm_arm_arg (h : MM w0 wb w g D) (m : Int) (hm : m ≤ 9223372036854775807) (a : Option Addr) (b off n cap : Nat) (ks : List Int) (hk : IR w0 a b off ks) (hn : ks.length = n) (hnil : a = none → cap = 0) (hl : n ≤ 100000000) : Calls Try.prog 27 #[.pointer (some ⟨g, 0, none⟩), .int .i64 m, .slice a n cap] w fun e w' => (∃ v, e = .returned v) ∧ MM w0 wb w' g (Dk.arm D m ks) :=
  (arm_any g D m hm a b off n cap ks w h.mine.at_ (hk.below h.mine.below) hn hnil hl).mono fun _ _ ⟨x, y, z⟩ => ⟨x, h.step y z⟩
end
set_option maxHeartbeats 1000000 in
set_option maxRecDepth 100000 in
theorem dm_0 (d f g0 n : Int) (s : ByteArray) (ka : Option Addr) (kn kcap : Nat) (w0 wb w : World) (g : Nat) (D : Dk.Disk) (h : MM w0 wb w g D) (hd0 : -9223372036854775808 ≤ d) (hd1 : d ≤ 9223372036854775807) (hp : Dk.pick d = 0) (hn0 : -9223372036854775808 ≤ n) (hn1 : n ≤ 9223372036854775807) (hs : s.size ≤ 1000000) (hq : D.queue.length + s.size ≤ 1000000) :
    Calls Try.prog 15 #[.pointer (some ⟨g, 0, none⟩), .agg #[.int .i64 d, .int .i64 f, .int .i64 g0, .int .i64 n, .string s, .slice ka kn kcap]] w fun e w' => e = .returned (.tuple #[.string (⟨#[]⟩), .int .i64 (Dk.ec (Dk.write D f n s.data.toList).1)]) ∧ MM w0 wb w' g ((Dk.write D f n s.data.toList).2) := by
  have CP := Lib.hid (fun w1 : World => pick_any d hd0 hd1 w1)
  rw [hp] at CP
  clear hp
  have hm := h.alloc (.cells #[.int .i64 d, .int .i64 f, .int .i64 g0, .int .i64 n, .string s, .slice ka kn kcap] 32)
  have CM := Lib.hid (mm_write hm f n hn0 hn1 s hs hq)
  clear h hm
  obtain ⟨RE, hRE⟩ : ∃ RE, Dk.ec (Dk.write D f n s.data.toList).1 = RE := ⟨_, rfl⟩
  rw [hRE] at CM ⊢
  clear hRE
  go_enter Try.func15, Try.ntmps15
  go_wp2_with (first | (go_at_call 10; with_reducible refine (CP.out _).mono ?_; rintro _ w2 ⟨rfl, rfl⟩) | (go_at_call 12; with_reducible refine CM.out.mono ?_; rintro _ w3 ⟨rfl, hm⟩; have HM := Lib.hid hm; clear hm))
  go_ret2
  exact ⟨rfl, HM.out⟩
set_option maxHeartbeats 1000000 in
set_option maxRecDepth 100000 in
theorem dm_1 (d f g0 n : Int) (s : ByteArray) (ka : Option Addr) (kn kcap : Nat) (w0 wb w : World) (g : Nat) (D : Dk.Disk) (h : MM w0 wb w g D) (hd0 : -9223372036854775808 ≤ d) (hd1 : d ≤ 9223372036854775807) (hp : Dk.pick d = 1) (hn0 : -9223372036854775808 ≤ n) (hn1 : n ≤ 9223372036854775807) (hs : s.size ≤ 1000000) (hq : D.queue.length + s.size ≤ 1000000) :
    Calls Try.prog 15 #[.pointer (some ⟨g, 0, none⟩), .agg #[.int .i64 d, .int .i64 f, .int .i64 g0, .int .i64 n, .string s, .slice ka kn kcap]] w fun e w' => e = .returned (.tuple #[.string (⟨#[]⟩), .int .i64 (Dk.ec (Dk.write D f n s.data.toList).1)]) ∧ MM w0 wb w' g ((Dk.write D f n s.data.toList).2) := by
  have CP := Lib.hid (fun w1 : World => pick_any d hd0 hd1 w1)
  rw [hp] at CP
  clear hp
  have hm := h.alloc (.cells #[.int .i64 d, .int .i64 f, .int .i64 g0, .int .i64 n, .string s, .slice ka kn kcap] 32)
  have CM := Lib.hid (mm_write hm f n hn0 hn1 s hs hq)
  clear h hm
  obtain ⟨RE, hRE⟩ : ∃ RE, Dk.ec (Dk.write D f n s.data.toList).1 = RE := ⟨_, rfl⟩
  rw [hRE] at CM ⊢
  clear hRE
  go_enter Try.func15, Try.ntmps15
  go_wp2_with (first | (go_at_call 10; with_reducible refine (CP.out _).mono ?_; rintro _ w2 ⟨rfl, rfl⟩) | (go_at_call 12; with_reducible refine CM.out.mono ?_; rintro _ w3 ⟨rfl, hm⟩; have HM := Lib.hid hm; clear hm))
  go_ret2
  exact ⟨rfl, HM.out⟩
set_option maxHeartbeats 1000000 in
set_option maxRecDepth 100000 in
theorem dm_2 (d f g0 n : Int) (s : ByteArray) (ka : Option Addr) (kn kcap : Nat) (w0 wb w : World) (g : Nat) (D : Dk.Disk) (h : MM w0 wb w g D) (hd0 : -9223372036854775808 ≤ d) (hd1 : d ≤ 9223372036854775807) (hp : Dk.pick d = 2) :
    Calls Try.prog 15 #[.pointer (some ⟨g, 0, none⟩), .agg #[.int .i64 d, .int .i64 f, .int .i64 g0, .int .i64 n, .string s, .slice ka kn kcap]] w fun e w' => e = .returned (.tuple #[.string (⟨#[]⟩), .int .i64 (Dk.ec (Dk.flush D f).1)]) ∧ MM w0 wb w' g ((Dk.flush D f).2) := by
  have CP := Lib.hid (fun w1 : World => pick_any d hd0 hd1 w1)
  rw [hp] at CP
  clear hp
  have hm := h.alloc (.cells #[.int .i64 d, .int .i64 f, .int .i64 g0, .int .i64 n, .string s, .slice ka kn kcap] 32)
  have CM := Lib.hid (mm_flush hm f)
  clear h hm
  obtain ⟨RE, hRE⟩ : ∃ RE, Dk.ec (Dk.flush D f).1 = RE := ⟨_, rfl⟩
  rw [hRE] at CM ⊢
  clear hRE
  go_enter Try.func15, Try.ntmps15
  go_wp2_with (first | (go_at_call 10; with_reducible refine (CP.out _).mono ?_; rintro _ w2 ⟨rfl, rfl⟩) | (go_at_call 29; with_reducible refine CM.out.mono ?_; rintro _ w3 ⟨rfl, hm⟩; have HM := Lib.hid hm; clear hm))
  go_ret2
  exact ⟨rfl, HM.out⟩
set_option maxHeartbeats 1000000 in
set_option maxRecDepth 100000 in
theorem dm_3 (d f g0 n : Int) (s : ByteArray) (ka : Option Addr) (kn kcap : Nat) (w0 wb w : World) (g : Nat) (D : Dk.Disk) (h : MM w0 wb w g D) (hd0 : -9223372036854775808 ≤ d) (hd1 : d ≤ 9223372036854775807) (hp : Dk.pick d = 3) :
    Calls Try.prog 15 #[.pointer (some ⟨g, 0, none⟩), .agg #[.int .i64 d, .int .i64 f, .int .i64 g0, .int .i64 n, .string s, .slice ka kn kcap]] w fun e w' => e = .returned (.tuple #[.string (⟨#[]⟩), .int .i64 (Dk.ec (Dk.cut D f n).1)]) ∧ MM w0 wb w' g ((Dk.cut D f n).2) := by
  have CP := Lib.hid (fun w1 : World => pick_any d hd0 hd1 w1)
  rw [hp] at CP
  clear hp
  have hm := h.alloc (.cells #[.int .i64 d, .int .i64 f, .int .i64 g0, .int .i64 n, .string s, .slice ka kn kcap] 32)
  have CM := Lib.hid (mm_cut hm f n)
  clear h hm
  obtain ⟨RE, hRE⟩ : ∃ RE, Dk.ec (Dk.cut D f n).1 = RE := ⟨_, rfl⟩
  rw [hRE] at CM ⊢
  clear hRE
  go_enter Try.func15, Try.ntmps15
  go_wp2_with (first | (go_at_call 10; with_reducible refine (CP.out _).mono ?_; rintro _ w2 ⟨rfl, rfl⟩) | (go_at_call 32; with_reducible refine CM.out.mono ?_; rintro _ w3 ⟨rfl, hm⟩; have HM := Lib.hid hm; clear hm))
  go_ret2
  exact ⟨rfl, HM.out⟩
set_option maxHeartbeats 1000000 in
set_option maxRecDepth 100000 in
theorem dm_4 (d f g0 n : Int) (s : ByteArray) (ka : Option Addr) (kn kcap : Nat) (w0 wb w : World) (g : Nat) (D : Dk.Disk) (h : MM w0 wb w g D) (hd0 : -9223372036854775808 ≤ d) (hd1 : d ≤ 9223372036854775807) (hp : Dk.pick d = 4) :
    Calls Try.prog 15 #[.pointer (some ⟨g, 0, none⟩), .agg #[.int .i64 d, .int .i64 f, .int .i64 g0, .int .i64 n, .string s, .slice ka kn kcap]] w fun e w' => e = .returned (.tuple #[.string (⟨#[]⟩), .int .i64 (Dk.ec (Dk.turn D f g0).1)]) ∧ MM w0 wb w' g ((Dk.turn D f g0).2) := by
  have CP := Lib.hid (fun w1 : World => pick_any d hd0 hd1 w1)
  rw [hp] at CP
  clear hp
  have hm := h.alloc (.cells #[.int .i64 d, .int .i64 f, .int .i64 g0, .int .i64 n, .string s, .slice ka kn kcap] 32)
  have CM := Lib.hid (mm_turn hm f g0)
  clear h hm
  obtain ⟨RE, hRE⟩ : ∃ RE, Dk.ec (Dk.turn D f g0).1 = RE := ⟨_, rfl⟩
  rw [hRE] at CM ⊢
  clear hRE
  go_enter Try.func15, Try.ntmps15
  go_wp2_with (first | (go_at_call 10; with_reducible refine (CP.out _).mono ?_; rintro _ w2 ⟨rfl, rfl⟩) | (go_at_call 31; with_reducible refine CM.out.mono ?_; rintro _ w3 ⟨rfl, hm⟩; have HM := Lib.hid hm; clear hm))
  go_ret2
  exact ⟨rfl, HM.out⟩
set_option maxHeartbeats 1000000 in
set_option maxRecDepth 100000 in
theorem dm_5 (d f g0 n : Int) (s : ByteArray) (ka : Option Addr) (kn kcap : Nat) (kb koff : Nat) (ks : List Int) (w0 wb w : World) (g : Nat) (D : Dk.Disk) (h : MM w0 wb w g D) (hd0 : -9223372036854775808 ≤ d) (hd1 : d ≤ 9223372036854775807) (hp : Dk.pick d = 5) (hk : IR w0 ka kb koff ks) (hkn : ks.length = kn) :
    Calls Try.prog 15 #[.pointer (some ⟨g, 0, none⟩), .agg #[.int .i64 d, .int .i64 f, .int .i64 g0, .int .i64 n, .string s, .slice ka kn kcap]] w fun e w' => e = .returned (.tuple #[.string (⟨#[]⟩), .int .i64 (0)]) ∧ MM w0 wb w' g (Dk.crash D ks) := by
  have CP := Lib.hid (fun w1 : World => pick_any d hd0 hd1 w1)
  rw [hp] at CP
  clear hp
  have hm := h.alloc (.cells #[.int .i64 d, .int .i64 f, .int .i64 g0, .int .i64 n, .string s, .slice ka kn kcap] 32)
  have CM := Lib.hid (mm_crash_arg hm ka kb koff kn kcap ks hk hkn)
  clear h hm
  go_enter Try.func15, Try.ntmps15
  go_wp2_with (first | (go_at_call 10; with_reducible refine (CP.out _).mono ?_; rintro _ w2 ⟨rfl, rfl⟩) | (go_at_call 13; with_reducible refine CM.out.mono ?_; rintro _ w3 ⟨⟨v9, rfl⟩, hm⟩; have HM := Lib.hid hm; clear hm))
  go_ret2
  exact ⟨rfl, HM.out⟩
set_option maxHeartbeats 1000000 in
set_option maxRecDepth 100000 in
theorem dm_6 (d f g0 n : Int) (s : ByteArray) (ka : Option Addr) (kn kcap : Nat) (w0 wb w : World) (g : Nat) (D : Dk.Disk) (h : MM w0 wb w g D) (hd0 : -9223372036854775808 ≤ d) (hd1 : d ≤ 9223372036854775807) (hp : Dk.pick d = 6) (hn1 : n ≤ 9223372036854775807) :
    Calls Try.prog 15 #[.pointer (some ⟨g, 0, none⟩), .agg #[.int .i64 d, .int .i64 f, .int .i64 g0, .int .i64 n, .string s, .slice ka kn kcap]] w fun e w' => e = .returned (.tuple #[.string (⟨#[]⟩), .int .i64 (0)]) ∧ MM w0 wb w' g (Dk.lose D n) := by
  have CP := Lib.hid (fun w1 : World => pick_any d hd0 hd1 w1)
  rw [hp] at CP
  clear hp
  have hm := h.alloc (.cells #[.int .i64 d, .int .i64 f, .int .i64 g0, .int .i64 n, .string s, .slice ka kn kcap] 32)
  have CM := Lib.hid (mm_lose hm n hn1)
  clear h hm
  go_enter Try.func15, Try.ntmps15
  go_wp2_with (first | (go_at_call 10; with_reducible refine (CP.out _).mono ?_; rintro _ w2 ⟨rfl, rfl⟩) | (go_at_call 30; with_reducible refine CM.out.mono ?_; rintro _ w3 ⟨⟨v9, rfl⟩, hm⟩; have HM := Lib.hid hm; clear hm))
  go_ret2
  exact ⟨rfl, HM.out⟩
set_option maxHeartbeats 1000000 in
set_option maxRecDepth 100000 in
theorem dm_7 (d f g0 n : Int) (s : ByteArray) (ka : Option Addr) (kn kcap : Nat) (w0 wb w : World) (g : Nat) (D : Dk.Disk) (h : MM w0 wb w g D) (hd0 : -9223372036854775808 ≤ d) (hd1 : d ≤ 9223372036854775807) (hp : Dk.pick d = 7) :
    Calls Try.prog 15 #[.pointer (some ⟨g, 0, none⟩), .agg #[.int .i64 d, .int .i64 f, .int .i64 g0, .int .i64 n, .string s, .slice ka kn kcap]] w fun e w' => e = .returned (.tuple #[.string (⟨#[]⟩), .int .i64 (0)]) ∧ MM w0 wb w' g (Dk.start D) := by
  have CP := Lib.hid (fun w1 : World => pick_any d hd0 hd1 w1)
  rw [hp] at CP
  clear hp
  have hm := h.alloc (.cells #[.int .i64 d, .int .i64 f, .int .i64 g0, .int .i64 n, .string s, .slice ka kn kcap] 32)
  have CM := Lib.hid (mm_start hm)
  clear h hm
  go_enter Try.func15, Try.ntmps15
  go_wp2_with (first | (go_at_call 10; with_reducible refine (CP.out _).mono ?_; rintro _ w2 ⟨rfl, rfl⟩) | (go_at_call 21; with_reducible refine CM.out.mono ?_; rintro _ w3 ⟨⟨v9, rfl⟩, hm⟩; have HM := Lib.hid hm; clear hm))
  go_ret2
  exact ⟨rfl, HM.out⟩
set_option maxHeartbeats 1000000 in
set_option maxRecDepth 100000 in
theorem dm_8 (d f g0 n : Int) (s : ByteArray) (ka : Option Addr) (kn kcap : Nat) (w0 wb w : World) (g : Nat) (D : Dk.Disk) (h : MM w0 wb w g D) (hd0 : -9223372036854775808 ≤ d) (hd1 : d ≤ 9223372036854775807) (hp : Dk.pick d = 8) :
    Calls Try.prog 15 #[.pointer (some ⟨g, 0, none⟩), .agg #[.int .i64 d, .int .i64 f, .int .i64 g0, .int .i64 n, .string s, .slice ka kn kcap]] w fun e w' => e = .returned (.tuple #[.string (enc (Dk.readE D f).1), .int .i64 (Dk.ec (Dk.readE D f).2)]) ∧ MM w0 wb w' g (D) := by
  have CP := Lib.hid (fun w1 : World => pick_any d hd0 hd1 w1)
  rw [hp] at CP
  clear hp
  have hm := h.alloc (.cells #[.int .i64 d, .int .i64 f, .int .i64 g0, .int .i64 n, .string s, .slice ka kn kcap] 32)
  have CM := Lib.hid (mm_read hm f)
  clear h hm
  obtain ⟨RS, hRS⟩ : ∃ RS, enc (Dk.readE D f).1 = RS := ⟨_, rfl⟩
  rw [hRS] at CM ⊢
  clear hRS
  obtain ⟨RE, hRE⟩ : ∃ RE, Dk.ec (Dk.readE D f).2 = RE := ⟨_, rfl⟩
  rw [hRE] at CM ⊢
  clear hRE
  go_enter Try.func15, Try.ntmps15
  go_wp2_with (first | (go_at_call 10; with_reducible refine (CP.out _).mono ?_; rintro _ w2 ⟨rfl, rfl⟩) | (go_at_call 23; with_reducible refine CM.out.mono ?_; rintro _ w3 ⟨rfl, hm⟩; have HM := Lib.hid hm; clear hm))
  go_ret2
  exact ⟨rfl, HM.out⟩
set_option maxHeartbeats 1000000 in
set_option maxRecDepth 100000 in
theorem dm_9 (d f g0 n : Int) (s : ByteArray) (ka : Option Addr) (kn kcap : Nat) (w0 wb w : World) (g : Nat) (D : Dk.Disk) (h : MM w0 wb w g D) (hd0 : -9223372036854775808 ≤ d) (hd1 : d ≤ 9223372036854775807) (hp : Dk.pick d = 9) :
    Calls Try.prog 15 #[.pointer (some ⟨g, 0, none⟩), .agg #[.int .i64 d, .int .i64 f, .int .i64 g0, .int .i64 n, .string s, .slice ka kn kcap]] w fun e w' => e = .returned (.tuple #[.string (⟨#[]⟩), .int .i64 (0)]) ∧ MM w0 wb w' g (D) := by
  have CP := Lib.hid (fun w1 : World => pick_any d hd0 hd1 w1)
  rw [hp] at CP
  clear hp
  have hm := h.alloc (.cells #[.int .i64 d, .int .i64 f, .int .i64 g0, .int .i64 n, .string s, .slice ka kn kcap] 32)
  have HM := Lib.hid hm
  clear h hm
  go_enter Try.func15, Try.ntmps15
  go_wp2_with (first | (go_at_call 10; with_reducible refine (CP.out _).mono ?_; rintro _ w2 ⟨rfl, rfl⟩))
  go_ret2
  exact ⟨rfl, HM.out⟩
set_option maxHeartbeats 1000000 in
set_option maxRecDepth 100000 in
theorem dm_10 (d f g0 n : Int) (s : ByteArray) (ka : Option Addr) (kn kcap : Nat) (kb koff : Nat) (ks : List Int) (w0 wb w : World) (g : Nat) (D : Dk.Disk) (h : MM w0 wb w g D) (hd0 : -9223372036854775808 ≤ d) (hd1 : d ≤ 9223372036854775807) (hp : Dk.pick d = 10) (hn1 : n ≤ 9223372036854775807) (hk : IR w0 ka kb koff ks) (hkn : ks.length = kn) (hknil : ka = none → kcap = 0) (hkl : kn ≤ 100000000) :
    Calls Try.prog 15 #[.pointer (some ⟨g, 0, none⟩), .agg #[.int .i64 d, .int .i64 f, .int .i64 g0, .int .i64 n, .string s, .slice ka kn kcap]] w fun e w' => e = .returned (.tuple #[.string (⟨#[]⟩), .int .i64 (0)]) ∧ MM w0 wb w' g (Dk.arm D n ks) := by
  have CP := Lib.hid (fun w1 : World => pick_any d hd0 hd1 w1)
  rw [hp] at CP
  clear hp
  have hm := h.alloc (.cells #[.int .i64 d, .int .i64 f, .int .i64 g0, .int .i64 n, .string s, .slice ka kn kcap] 32)
  have CM := Lib.hid (mm_arm_arg hm n hn1 ka kb koff kn kcap ks hk hkn hknil hkl)
  clear h hm
  go_enter Try.func15, Try.ntmps15
  go_wp2_with (first | (go_at_call 10; with_reducible refine (CP.out _).mono ?_; rintro _ w2 ⟨rfl, rfl⟩) | (go_at_call 27; with_reducible refine CM.out.mono ?_; rintro _ w3 ⟨⟨v9, rfl⟩, hm⟩; have HM := Lib.hid hm; clear hm))
  go_ret2
  exact ⟨rfl, HM.out⟩
/-- do, whatever the act. -/
theorem dm_any (a : Dk.Act) (s : ByteArray) (hs1 : s.data.toList = a.s) (ka : Option Addr) (kb koff kn kcap : Nat) (w0 wb w : World) (g : Nat) (D : Dk.Disk) (h : MM w0 wb w g D) (hA : AC w0 a ka kb koff kn kcap) (hs : a.s.length ≤ 1000000) (hq : D.queue.length + a.s.length ≤ 1000000) (hkl : kn ≤ 100000000) :
    Calls Try.prog 15 #[.pointer (some ⟨g, 0, none⟩), .agg #[.int .i64 a.do_, .int .i64 a.f, .int .i64 a.g, .int .i64 a.n, .string s, .slice ka kn kcap]] w fun e w' => e = .returned (.tuple #[.string (enc (Dk.act D a).1.1), .int .i64 (Dk.ec (Dk.act D a).1.2)]) ∧ MM w0 wb w' g (Dk.act D a).2 := by
  have hz := Lib.size_eq s
  rw [hs1] at hz
  obtain ⟨p0, p1⟩ := Dk.pick_range a.do_
  have hc : Dk.pick a.do_ = 0 ∨ Dk.pick a.do_ = 1 ∨ Dk.pick a.do_ = 2 ∨ Dk.pick a.do_ = 3 ∨ Dk.pick a.do_ = 4 ∨ Dk.pick a.do_ = 5 ∨ Dk.pick a.do_ = 6 ∨ Dk.pick a.do_ = 7 ∨ Dk.pick a.do_ = 8 ∨ Dk.pick a.do_ = 9 ∨ Dk.pick a.do_ = 10 := by omega
  rcases hc with e | e | e | e | e | e | e | e | e | e | e
  · have C := dm_0 a.do_ a.f a.g a.n s ka kn kcap w0 wb w g D h hA.d0 hA.d1 e hA.n0 hA.n1 (by omega) (by omega)
    rw [hs1] at C
    refine C.mono fun x w' ⟨h1, h2⟩ => ?_
    unfold Dk.act
    rw [e]
    exact ⟨h1, h2⟩
  · have C := dm_1 a.do_ a.f a.g a.n s ka kn kcap w0 wb w g D h hA.d0 hA.d1 e hA.n0 hA.n1 (by omega) (by omega)
    rw [hs1] at C
    refine C.mono fun x w' ⟨h1, h2⟩ => ?_
    unfold Dk.act
    rw [e]
    exact ⟨h1, h2⟩
  · have C := dm_2 a.do_ a.f a.g a.n s ka kn kcap w0 wb w g D h hA.d0 hA.d1 e
    refine C.mono fun x w' ⟨h1, h2⟩ => ?_
    unfold Dk.act
    rw [e]
    exact ⟨h1, h2⟩
  · have C := dm_3 a.do_ a.f a.g a.n s ka kn kcap w0 wb w g D h hA.d0 hA.d1 e
    refine C.mono fun x w' ⟨h1, h2⟩ => ?_
    unfold Dk.act
    rw [e]
    exact ⟨h1, h2⟩
  · have C := dm_4 a.do_ a.f a.g a.n s ka kn kcap w0 wb w g D h hA.d0 hA.d1 e
    refine C.mono fun x w' ⟨h1, h2⟩ => ?_
    unfold Dk.act
    rw [e]
    exact ⟨h1, h2⟩
  · have C := dm_5 a.do_ a.f a.g a.n s ka kn kcap kb koff a.keep w0 wb w g D h hA.d0 hA.d1 e hA.ir hA.len
    refine C.mono fun x w' ⟨h1, h2⟩ => ?_
    unfold Dk.act
    rw [e]
    exact ⟨h1, h2⟩
  · have C := dm_6 a.do_ a.f a.g a.n s ka kn kcap w0 wb w g D h hA.d0 hA.d1 e hA.n1
    refine C.mono fun x w' ⟨h1, h2⟩ => ?_
    unfold Dk.act
    rw [e]
    exact ⟨h1, h2⟩
  · have C := dm_7 a.do_ a.f a.g a.n s ka kn kcap w0 wb w g D h hA.d0 hA.d1 e
    refine C.mono fun x w' ⟨h1, h2⟩ => ?_
    unfold Dk.act
    rw [e]
    exact ⟨h1, h2⟩
  · have C := dm_8 a.do_ a.f a.g a.n s ka kn kcap w0 wb w g D h hA.d0 hA.d1 e
    refine C.mono fun x w' ⟨h1, h2⟩ => ?_
    unfold Dk.act
    rw [e]
    exact ⟨h1, h2⟩
  · have C := dm_9 a.do_ a.f a.g a.n s ka kn kcap w0 wb w g D h hA.d0 hA.d1 e
    refine C.mono fun x w' ⟨h1, h2⟩ => ?_
    unfold Dk.act
    rw [e]
    exact ⟨h1, h2⟩
  · have C := dm_10 a.do_ a.f a.g a.n s ka kn kcap kb koff a.keep w0 wb w g D h hA.d0 hA.d1 e hA.n1 hA.ir hA.len hA.nil hkl
    refine C.mono fun x w' ⟨h1, h2⟩ => ?_
    unfold Dk.act
    rw [e]
    exact ⟨h1, h2⟩
/-- What the law's main loop has in memory. -/
structure LM (w2 w : World) (g sb : Nat) (v : Value) (D : Dk.Disk) (safe : Nat → List UInt8) (l : List AH) : Prop where
  mine : Mine w2 w g D
  safe_ : Blk w sb 9 (sv safe)
  sblk : w2.heap.size ≤ sb
  own : w.ownsRow w2.heap.size 32 6 v l.length (av l)
  kept : Kept w2 l
theorem LS.lm {w2 w : World} {g sb k : Nat} {v : Value} {X : List Dk.Act} {D : Dk.Disk} {safe : Nat → List UInt8} {l : List AH} (h : LS w2 w g sb v X k D safe l) : LM w2 w g sb v D safe l := ⟨h.mine, h.safe_, h.sblk, h.own, h.kept⟩
section
variable {w2 w w' : World} {g sb : Nat} {v : Value} {D D' : Dk.Disk} {safe : Nat → List UInt8} {l : List AH}
theorem LM.quiet (h : LM w2 w g sb v D safe l) (hb : Below w.heap.size w w') : LM w2 w' g sb v D safe l :=
  ⟨h.mine.quiet hb, (hb.block sb h.safe_.lt).trans h.safe_, h.sblk, own_below h.own hb, h.kept⟩
theorem LM.alloc (h : LM w2 w g sb v D safe l) (o : Obj) : LM w2 (w.alloc o) g sb v D safe l := h.quiet (below_new w o)
theorem LM.mv (h : LM w2 w g sb v D safe l) (m : MM w2 w w' g D') : LM w2 w' g sb v D' safe l :=
  ⟨m.mine, blk_mv h.safe_ h.mine.at_ m.mv (by decide) (by decide) (by decide), h.sblk, own_mv h.own h.mine.at_ m.mv (by decide) (by decide) (by decide), h.kept⟩
theorem LM.mm (h : LM w2 w g sb v D safe l) : MM w2 w w g D := ⟨h.mine, Mv.refl _ _⟩
/-- The act is laid by. -/
theorem LM.laid {v' : Value} {x : AH} (h : LM w2 w g sb v D safe l) (hg : w.grownBy w' v.ownBlock) (ho : w'.ownsRow w2.heap.size 32 6 v' (l ++ [x]).length (av (l ++ [x]))) (hx : Kept w2 [x]) : LM w2 w' g sb v' D safe (l ++ [x]) :=
  ⟨h.mine.aside hg (aside_own h.own (by decide) (by decide) (by decide) (by decide)) (own_from h.own), blk_grown h.safe_ hg (own_block h.own h.safe_ (by decide)), h.sblk, ho, h.kept.append hx⟩
/-- A string is stored in the law's twelve. -/
theorem LM.store (h : LM w2 w g sb v D safe l) (f : Nat) (s : List UInt8) : LM w2 (w.setCell ⟨sb, f, none⟩ (.string (enc s))) g sb v D (Dk.setLast safe f s) l := by
  have hg := grown_set (grown_refl w (some sb)) f (.string (enc s))
  refine ⟨h.mine.aside hg (fun b hb => ?_) (fun b hb => ?_), (h.safe_.set f _).as (sv_set safe f s), h.sblk, ?_, h.kept⟩
  · obtain rfl := Option.some.inj hb
    exact ⟨_, _, _, h.safe_, by decide, by decide, by decide, by decide⟩
  · obtain rfl := Option.some.inj hb
    exact h.sblk
  · have hn := own_block h.own h.safe_ (by decide)
    obtain ⟨y1, y | ⟨b, cap, cur, rfl, y2, hb, y3, y4, y5, y6⟩⟩ := h.own
    · exact ⟨y1, .inl y⟩
    · exact ⟨y1, .inr ⟨b, cap, cur, rfl, y2, (hg.block b (Array.getElem?_eq_some_iff.1 hb).1 (fun e => hn e)).trans hb, y3, y4, y5, y6⟩⟩
theorem LM.safe_at (h : LM w2 w g sb v D safe l) (f : Nat) (hf : f < 12) : w.cell? ⟨sb, f, none⟩ = some (.string (enc (safe f))) := h.safe_.cell (sv_at safe f hf)
/-- The list is emptied. -/
theorem LM.emptied (h : LM w2 w g sb v D safe l) : LM w2 w g sb (.slice none 0 0) D safe [] := ⟨h.mine, h.safe_, h.sblk, ⟨rfl, .inl ⟨rfl, rfl⟩⟩, fun x hx => by simp at hx⟩
theorem own_low {b0 b1 : Nat} {e : TypeId} {sz n : Nat} {xs : List Value} (h : w.ownsRow b1 e sz v n xs) (hb : b0 ≤ b1) : w.ownsRow b0 e sz v n xs := by
  obtain ⟨h1, h | ⟨g, cap, cur, rfl, h2, h3⟩⟩ := h
  · exact ⟨h1, .inl h⟩
  · exact ⟨h1, .inr ⟨g, cap, cur, rfl, Nat.le_trans hb h2, h3⟩⟩
theorem Kept.keep {w : World} {l : List AH} (h : Kept w l) (f : Int) (n : Nat) : Kept w (keep l f n) := fun x hx => h x (keep_sub l f n x hx)
theorem lm_do (h : LM w2 w g sb v D safe l) (x : Dk.Act) (ka : Option Addr) (kb koff kn kcap : Nat) (hA : AC w2 x ka kb koff kn kcap) (hs : x.s.length ≤ 1000000) (hq : D.queue.length + x.s.length ≤ 1000000) (hkl : kn ≤ 100000000) :
    Calls Try.prog 15 #[.pointer (some ⟨g, 0, none⟩), .agg #[.int .i64 x.do_, .int .i64 x.f, .int .i64 x.g, .int .i64 x.n, .string (enc x.s), .slice ka kn kcap]] w fun e w' => e = .returned (.tuple #[.string (enc (Dk.act D x).1.1), .int .i64 (Dk.ec (Dk.act D x).1.2)]) ∧ LM w2 w' g sb v (Dk.act D x).2 safe l :=
  (dm_any x (enc x.s) rfl ka kb koff kn kcap w2 w w g D h.mm hA hs hq hkl).mono fun _ _ ⟨a, b⟩ => ⟨a, h.mv b⟩
theorem lm_down (h : LM w2 w g sb v D safe l) : Calls Try.prog 17 #[.pointer (some ⟨g, 0, none⟩)] w fun e w' => e = .returned (.bool D.down) ∧ w = w' := mine_down h.mine
theorem lm_start (h : LM w2 w g sb v D safe l) : Calls Try.prog 21 #[.pointer (some ⟨g, 0, none⟩)] w fun e w' => (∃ v, e = .returned v) ∧ LM w2 w' g sb v (Dk.start D) safe l := (mm_start h.mm).mono fun _ _ ⟨a, b⟩ => ⟨a, h.mv b⟩
theorem lm_crash_nil (h : LM w2 w g sb v D safe l) : Calls Try.prog 13 #[.pointer (some ⟨g, 0, none⟩), .slice none 0 0] w fun e w' => (∃ v, e = .returned v) ∧ LM w2 w' g sb v (Dk.crash D []) safe l := (mm_crash_nil h.mm).mono fun _ _ ⟨a, b⟩ => ⟨a, h.mv b⟩
theorem lm_arm_nil (h : LM w2 w g sb v D safe l) : Calls Try.prog 27 #[.pointer (some ⟨g, 0, none⟩), .int .i64 0, .slice none 0 0] w fun e w' => (∃ v, e = .returned v) ∧ LM w2 w' g sb v (Dk.arm D 0 []) safe l := (mm_arm_nil h.mm 0 (by decide)).mono fun _ _ ⟨a, b⟩ => ⟨a, h.mv b⟩
theorem lm_crash_arg (h : LM w2 w g sb v D safe l) (a : Option Addr) (b off n cap : Nat) (ks : List Int) (hk : IR w2 a b off ks) (hn : ks.length = n) : Calls Try.prog 13 #[.pointer (some ⟨g, 0, none⟩), .slice a n cap] w fun e w' => (∃ v, e = .returned v) ∧ LM w2 w' g sb v (Dk.crash D ks) safe l := (mm_crash_arg h.mm a b off n cap ks hk hn).mono fun _ _ ⟨a, b⟩ => ⟨a, h.mv b⟩
theorem lm_read (h : LM w2 w g sb v D safe l) (f : Int) : Calls Try.prog 23 #[.pointer (some ⟨g, 0, none⟩), .int .i64 f] w fun e w' => e = .returned (.tuple #[.string (enc (Dk.readE D f).1), .int .i64 (Dk.ec (Dk.readE D f).2)]) ∧ Below w.heap.size w w' ∧ LM w2 w' g sb v D safe l :=
  (read_any g D f w h.mine.at_).mono fun _ _ ⟨a, b⟩ => ⟨a, b, h.quiet b⟩
theorem lm_size (h : LM w2 w g sb v D safe l) (f : Int) : Calls Try.prog 19 #[.pointer (some ⟨g, 0, none⟩), .int .i64 f] w fun e w' => e = .returned (.int .i64 (Dk.size D f : Int)) ∧ Below w.heap.size w w' ∧ LM w2 w' g sb v D safe l :=
  (size_any g D f w h.mine.at_).mono fun _ _ ⟨a, b⟩ => ⟨a, b, h.quiet b⟩
theorem lm_without (xa : Option Addr) (n cap : Nat) (h : LM w2 w g sb (.slice xa n cap) D safe l) (hn : l.length = n) (hN : n ≤ 1000000) (f : Int) :
    Calls Try.prog 25 #[.slice xa n cap, .int .i64 f] w fun e w' => ∃ xa' n' cap', e = .returned (.slice xa' n' cap') ∧ (keep l f n).length = n' ∧ LM w2 w' g sb (.slice xa' n' cap') D safe (keep l f n) :=
  (without_any l n hn hN f w xa w2.heap.size cap h.own).mono fun _ w1 ⟨v', a, b, c⟩ => by
    obtain ⟨pa, pn, pc, rfl⟩ := own_slice c
    have e : (keep l f n).length = pn := by
      obtain ⟨_, ⟨h1, h2⟩ | ⟨_, _, _, h1, _⟩⟩ := c
      · injection h1 with _ h1 _
        omega
      · injection h1 with _ h1 _
        omega
    exact ⟨pa, pn, pc, a, e, h.mine.quiet b, (b.block sb h.safe_.lt).trans h.safe_, h.sblk, own_low c h.mine.below.size, h.kept.keep f n⟩
theorem lm_here (xa : Option Addr) (n cap : Nat) (h : LM w2 w g sb (.slice xa n cap) D safe l) (hn : l.length = n) (hN : n ≤ 1000000) (hX : ∀ x ∈ l, 0 ≤ x.a.n ∧ x.a.n < 4000) (f : Nat) (s sf : ByteArray) (hs : s.size ≤ 100000000) (hH : Dk.Here s.data.toList sf.data.toList (l.map AH.a) f) :
    Calls Try.prog 26 #[.string s, .string sf, .slice xa n cap, .int .i64 f] w fun e w' => e = .returned (.bool true) ∧ Below w.heap.size w w' ∧ LM w2 w' g sb (.slice xa n cap) D safe l := by
  obtain ⟨xa2, b, off, cap2, he, hl⟩ := la_own h.own h.kept h.mine.below
  injection he with h1 h2 h3
  subst h1 h3
  exact (here_any s sf (l.map AH.a) n (by rw [List.length_map]; exact hn) hN (fun a ha => by
    obtain ⟨x, hx, rfl⟩ := List.mem_map.1 ha
    exact hX x hx) f xa b off cap w hl hs hH).mono fun _ _ ⟨a, b⟩ => ⟨a, b, h.quiet b⟩
end
end Go.Proofs.Ytbpodclodflgfaa
