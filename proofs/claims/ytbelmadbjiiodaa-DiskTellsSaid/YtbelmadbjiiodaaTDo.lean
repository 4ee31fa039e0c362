/-
  do of the law's text, and what it leaves alone.
-/
import Derived.Test.YtbelmadbjiiodaaKGi
namespace Go.Proofs.Ytbelmadbjiiodaa
open Go Go.RowKit
/-- Mine, and nothing but the disk was changed since wb. -/
structure MM (w0 wb w : World) (g : Nat) (D : Dk.Disk) : Prop where
  mine : Mine w0 w g D
  mv : Mv g wb w
section
variable {w0 wb w : World} {g : Nat} {D : Dk.Disk}
theorem MM.step {w' : World} {D' : Dk.Disk} (h : MM w0 wb w g D) (d : DiskAt w' g D') (m : Mv g w w') : MM w0 wb w' g D' := ⟨h.mine.step d m, h.mv.trans m⟩
theorem MM.quiet {w' : World} (h : MM w0 wb w g D) (hb : Below w.heap.size w w') : MM w0 wb w' g D := h.step (h.mine.at_.below hb).1 (h.mine.at_.below hb).2
theorem MM.alloc (h : MM w0 wb w g D) (o : Obj) : MM w0 wb (w.alloc o) g D := h.quiet (below_new w o)
theorem mm_write (h : MM w0 wb w g D) (f at_ : Int) (h0 : -9223372036854775808 ≤ at_) (h1 : at_ ≤ 9223372036854775807) (s : ByteArray) (hs : s.size ≤ 1000000) (hq : D.queue.length + s.size ≤ 1000000) : Calls Try.prog 10 #[.pointer (some ⟨g, 0, none⟩), .int .i64 f, .int .i64 at_, .string s] w fun e w' => e = .returned (.int .i64 (Dk.ec (Dk.write D f at_ s.data.toList).1)) ∧ MM w0 wb w' g (Dk.write D f at_ s.data.toList).2 :=
  (write_any g D f at_ h0 h1 s hs hq w h.mine.at_).mono fun _ _ ⟨a, b, c⟩ => ⟨a, h.step b c⟩
theorem mm_read (h : MM w0 wb w g D) (f : Int) : Calls Try.prog 21 #[.pointer (some ⟨g, 0, none⟩), .int .i64 f] w fun e w' => e = .returned (.tuple #[.string (enc (Dk.readE D f).1), .int .i64 (Dk.ec (Dk.readE D f).2)]) ∧ MM w0 wb w' g D :=
  (read_any g D f w h.mine.at_).mono fun _ _ ⟨a, b⟩ => ⟨a, h.quiet b⟩
theorem mm_flush (h : MM w0 wb w g D) (f : Int) : Calls Try.prog 23 #[.pointer (some ⟨g, 0, none⟩), .int .i64 f] w fun e w' => e = .returned (.int .i64 (Dk.ec (Dk.flush D f).1)) ∧ MM w0 wb w' g (Dk.flush D f).2 :=
  (flush_any g D f w h.mine.at_).mono fun _ _ ⟨a, b, c⟩ => ⟨a, h.step b c⟩
theorem mm_cut (h : MM w0 wb w g D) (f n : Int) : Calls Try.prog 26 #[.pointer (some ⟨g, 0, none⟩), .int .i64 f, .int .i64 n] w fun e w' => e = .returned (.int .i64 (Dk.ec (Dk.cut D f n).1)) ∧ MM w0 wb w' g (Dk.cut D f n).2 :=
  (cut_any g D f n w h.mine.at_).mono fun _ _ ⟨a, b, c⟩ => ⟨a, h.step b c⟩
theorem mm_turn (h : MM w0 wb w g D) (f n : Int) : Calls Try.prog 25 #[.pointer (some ⟨g, 0, none⟩), .int .i64 f, .int .i64 n] w fun e w' => e = .returned (.int .i64 (Dk.ec (Dk.turn D f n).1)) ∧ MM w0 wb w' g (Dk.turn D f n).2 :=
  (turn_any g D f n w h.mine.at_).mono fun _ _ ⟨a, b, c⟩ => ⟨a, h.step b c⟩
theorem mm_start (h : MM w0 wb w g D) : Calls Try.prog 19 #[.pointer (some ⟨g, 0, none⟩)] w fun e w' => (∃ v, e = .returned v) ∧ MM w0 wb w' g (Dk.start D) :=
  by
  obtain ⟨vs, q, k, hv⟩ := h.mine.at_
  exact (start_any g vs q k D w hv).mono fun _ _ ⟨a, b, c⟩ => ⟨a, h.step ⟨_, _, _, b⟩ c⟩
theorem mm_lose (h : MM w0 wb w g D) (n : Int) (hn : n ≤ 9223372036854775807) : Calls Try.prog 24 #[.pointer (some ⟨g, 0, none⟩), .int .i64 n] w fun e w' => (∃ v, e = .returned v) ∧ MM w0 wb w' g (Dk.lose D n) :=
  by
  obtain ⟨vs, q, k, hv⟩ := h.mine.at_
  exact (lose_any g vs q k D n w hv hn).mono fun _ _ ⟨a, b, c⟩ => ⟨a, h.step ⟨_, _, _, b⟩ c⟩
theorem mm_crash_nil (h : MM w0 wb w g D) : Calls Try.prog 11 #[.pointer (some ⟨g, 0, none⟩), .slice none 0 0] w fun e w' => (∃ v, e = .returned v) ∧ MM w0 wb w' g (Dk.crash D []) :=
  (crash_any g D none 0 0 0 0 [] w h.mine.at_ (ir_empty w none) rfl (fun hp => by cases hp)).mono fun _ _ ⟨a, b, c⟩ => ⟨a, h.step b c⟩
theorem mm_arm_nil (h : MM w0 wb w g D) (n : Int) (hn : n ≤ 9223372036854775807) : Calls Try.prog 33 #[.pointer (some ⟨g, 0, none⟩), .int .i64 n, .slice none 0 0] w fun e w' => (∃ v, e = .returned v) ∧ MM w0 wb w' g (Dk.arm D n []) :=
  (arm_any g D n hn none 0 0 0 0 [] w h.mine.at_ (ir_empty w none) rfl (fun _ => rfl) (by omega)).mono fun _ _ ⟨a, b, c⟩ => ⟨a, h.step b c⟩
theorem mm_crash_arg (h : MM w0 wb w g D) (a : Option Addr) (b off n cap : Nat) (ks : List Int) (hk : IR w0 a b off ks) (hn : ks.length = n) : Calls Try.prog 11 #[.pointer (some ⟨g, 0, none⟩), .slice a n cap] w fun e w' => (∃ v, e = .returned v) ∧ MM w0 wb w' g (Dk.crash D ks) :=
  (crash_any g D a b off n cap ks w h.mine.at_ (hk.below h.mine.below) hn (fun hp hf => by have := h.mine.foot b hf; have := hk.lt hp; omega)).mono fun _ _ ⟨x, y, z⟩ => ⟨x, h.step y z⟩
theorem mm_arm_arg (h : MM w0 wb w g D) (m : Int) (hm : m ≤ 9223372036854775807) (a : Option Addr) (b off n cap : Nat) (ks : List Int) (hk : IR w0 a b off ks) (hn : ks.length = n) (hnil : a = none → cap = 0) (hl : n ≤ 100000000) : Calls Try.prog 33 #[.pointer (some ⟨g, 0, none⟩), .int .i64 m, .slice a n cap] w fun e w' => (∃ v, e = .returned v) ∧ MM w0 wb w' g (Dk.arm D m ks) :=
  (arm_any g D m hm a b off n cap ks w h.mine.at_ (hk.below h.mine.below) hn hnil hl).mono fun _ _ ⟨x, y, z⟩ => ⟨x, h.step y z⟩
end
set_option maxHeartbeats 1000000 in
set_option maxRecDepth 100000 in
theorem dm_0 (d f g0 n : Int) (s : ByteArray) (ka : Option Addr) (kn kcap : Nat) (w0 wb w : World) (g : Nat) (D : Dk.Disk) (h : MM w0 wb w g D) (hd0 : -9223372036854775808 ≤ d) (hd1 : d ≤ 9223372036854775807) (hp : Dk.pick d = 0) (hn0 : -9223372036854775808 ≤ n) (hn1 : n ≤ 9223372036854775807) (hs : s.size ≤ 1000000) (hq : D.queue.length + s.size ≤ 1000000) :
    Calls Try.prog 13 #[.pointer (some ⟨g, 0, none⟩), .agg #[.int .i64 d, .int .i64 f, .int .i64 g0, .int .i64 n, .string s, .slice ka kn kcap]] w fun e w' => e = .returned (.tuple #[.string (⟨#[]⟩), .int .i64 (Dk.ec (Dk.write D f n s.data.toList).1)]) ∧ MM w0 wb w' g ((Dk.write D f n s.data.toList).2) := by
  have CP := Lib.hid (fun w1 : World => pick_any d hd0 hd1 w1)
  rw [hp] at CP
  clear hp
  have hm := h.alloc (.cells #[.int .i64 d, .int .i64 f, .int .i64 g0, .int .i64 n, .string s, .slice ka kn kcap] 32)
  have CM := Lib.hid (mm_write hm f n hn0 hn1 s hs hq)
  clear h hm
  obtain ⟨RE, hRE⟩ : ∃ RE, Dk.ec (Dk.write D f n s.data.toList).1 = RE := ⟨_, rfl⟩
  rw [hRE] at CM ⊢
  clear hRE
  go_enter Try.func13, Try.ntmps13
  go_wp2_with (first | (go_at_call 8; with_reducible refine (CP.out _).mono ?_; rintro _ w2 ⟨rfl, rfl⟩) | (go_at_call 10; with_reducible refine CM.out.mono ?_; rintro _ w3 ⟨rfl, hm⟩; have HM := Lib.hid hm; clear hm))
  go_ret2
  exact ⟨rfl, HM.out⟩
set_option maxHeartbeats 1000000 in
set_option maxRecDepth 100000 in
theorem dm_1 (d f g0 n : Int) (s : ByteArray) (ka : Option Addr) (kn kcap : Nat) (w0 wb w : World) (g : Nat) (D : Dk.Disk) (h : MM w0 wb w g D) (hd0 : -9223372036854775808 ≤ d) (hd1 : d ≤ 9223372036854775807) (hp : Dk.pick d = 1) (hn0 : -9223372036854775808 ≤ n) (hn1 : n ≤ 9223372036854775807) (hs : s.size ≤ 1000000) (hq : D.queue.length + s.size ≤ 1000000) :
    Calls Try.prog 13 #[.pointer (some ⟨g, 0, none⟩), .agg #[.int .i64 d, .int .i64 f, .int .i64 g0, .int .i64 n, .string s, .slice ka kn kcap]] w fun e w' => e = .returned (.tuple #[.string (⟨#[]⟩), .int .i64 (Dk.ec (Dk.write D f n s.data.toList).1)]) ∧ MM w0 wb w' g ((Dk.write D f n s.data.toList).2) := by
  have CP := Lib.hid (fun w1 : World => pick_any d hd0 hd1 w1)
  rw [hp] at CP
  clear hp
  have hm := h.alloc (.cells #[.int .i64 d, .int .i64 f, .int .i64 g0, .int .i64 n, .string s, .slice ka kn kcap] 32)
  have CM := Lib.hid (mm_write hm f n hn0 hn1 s hs hq)
  clear h hm
  obtain ⟨RE, hRE⟩ : ∃ RE, Dk.ec (Dk.write D f n s.data.toList).1 = RE := ⟨_, rfl⟩
  rw [hRE] at CM ⊢
  clear hRE
  go_enter Try.func13, Try.ntmps13
  go_wp2_with (first | (go_at_call 8; with_reducible refine (CP.out _).mono ?_; rintro _ w2 ⟨rfl, rfl⟩) | (go_at_call 10; with_reducible refine CM.out.mono ?_; rintro _ w3 ⟨rfl, hm⟩; have HM := Lib.hid hm; clear hm))
  go_ret2
  exact ⟨rfl, HM.out⟩
set_option maxHeartbeats 1000000 in
set_option maxRecDepth 100000 in
theorem dm_2 (d f g0 n : Int) (s : ByteArray) (ka : Option Addr) (kn kcap : Nat) (w0 wb w : World) (g : Nat) (D : Dk.Disk) (h : MM w0 wb w g D) (hd0 : -9223372036854775808 ≤ d) (hd1 : d ≤ 9223372036854775807) (hp : Dk.pick d = 2) :
    Calls Try.prog 13 #[.pointer (some ⟨g, 0, none⟩), .agg #[.int .i64 d, .int .i64 f, .int .i64 g0, .int .i64 n, .string s, .slice ka kn kcap]] w fun e w' => e = .returned (.tuple #[.string (⟨#[]⟩), .int .i64 (Dk.ec (Dk.flush D f).1)]) ∧ MM w0 wb w' g ((Dk.flush D f).2) := by
  have CP := Lib.hid (fun w1 : World => pick_any d hd0 hd1 w1)
  rw [hp] at CP
  clear hp
  have hm := h.alloc (.cells #[.int .i64 d, .int .i64 f, .int .i64 g0, .int .i64 n, .string s, .slice ka kn kcap] 32)
  have CM := Lib.hid (mm_flush hm f)
  clear h hm
  obtain ⟨RE, hRE⟩ : ∃ RE, Dk.ec (Dk.flush D f).1 = RE := ⟨_, rfl⟩
  rw [hRE] at CM ⊢
  clear hRE
  go_enter Try.func13, Try.ntmps13
  go_wp2_with (first | (go_at_call 8; with_reducible refine (CP.out _).mono ?_; rintro _ w2 ⟨rfl, rfl⟩) | (go_at_call 23; with_reducible refine CM.out.mono ?_; rintro _ w3 ⟨rfl, hm⟩; have HM := Lib.hid hm; clear hm))
  go_ret2
  exact ⟨rfl, HM.out⟩
set_option maxHeartbeats 1000000 in
set_option maxRecDepth 100000 in
theorem dm_3 (d f g0 n : Int) (s : ByteArray) (ka : Option Addr) (kn kcap : Nat) (w0 wb w : World) (g : Nat) (D : Dk.Disk) (h : MM w0 wb w g D) (hd0 : -9223372036854775808 ≤ d) (hd1 : d ≤ 9223372036854775807) (hp : Dk.pick d = 3) :
    Calls Try.prog 13 #[.pointer (some ⟨g, 0, none⟩), .agg #[.int .i64 d, .int .i64 f, .int .i64 g0, .int .i64 n, .string s, .slice ka kn kcap]] w fun e w' => e = .returned (.tuple #[.string (⟨#[]⟩), .int .i64 (Dk.ec (Dk.cut D f n).1)]) ∧ MM w0 wb w' g ((Dk.cut D f n).2) := by
  have CP := Lib.hid (fun w1 : World => pick_any d hd0 hd1 w1)
  rw [hp] at CP
  clear hp
  have hm := h.alloc (.cells #[.int .i64 d, .int .i64 f, .int .i64 g0, .int .i64 n, .string s, .slice ka kn kcap] 32)
  have CM := Lib.hid (mm_cut hm f n)
  clear h hm
  obtain ⟨RE, hRE⟩ : ∃ RE, Dk.ec (Dk.cut D f n).1 = RE := ⟨_, rfl⟩
  rw [hRE] at CM ⊢
  clear hRE
  go_enter Try.func13, Try.ntmps13
  go_wp2_with (first | (go_at_call 8; with_reducible refine (CP.out _).mono ?_; rintro _ w2 ⟨rfl, rfl⟩) | (go_at_call 26; with_reducible refine CM.out.mono ?_; rintro _ w3 ⟨rfl, hm⟩; have HM := Lib.hid hm; clear hm))
  go_ret2
  exact ⟨rfl, HM.out⟩
set_option maxHeartbeats 1000000 in
set_option maxRecDepth 100000 in
theorem dm_4 (d f g0 n : Int) (s : ByteArray) (ka : Option Addr) (kn kcap : Nat) (w0 wb w : World) (g : Nat) (D : Dk.Disk) (h : MM w0 wb w g D) (hd0 : -9223372036854775808 ≤ d) (hd1 : d ≤ 9223372036854775807) (hp : Dk.pick d = 4) :
    Calls Try.prog 13 #[.pointer (some ⟨g, 0, none⟩), .agg #[.int .i64 d, .int .i64 f, .int .i64 g0, .int .i64 n, .string s, .slice ka kn kcap]] w fun e w' => e = .returned (.tuple #[.string (⟨#[]⟩), .int .i64 (Dk.ec (Dk.turn D f g0).1)]) ∧ MM w0 wb w' g ((Dk.turn D f g0).2) := by
  have CP := Lib.hid (fun w1 : World => pick_any d hd0 hd1 w1)
  rw [hp] at CP
  clear hp
  have hm := h.alloc (.cells #[.int .i64 d, .int .i64 f, .int .i64 g0, .int .i64 n, .string s, .slice ka kn kcap] 32)
  have CM := Lib.hid (mm_turn hm f g0)
  clear h hm
  obtain ⟨RE, hRE⟩ : ∃ RE, Dk.ec (Dk.turn D f g0).1 = RE := ⟨_, rfl⟩
  rw [hRE] at CM ⊢
  clear hRE
  go_enter Try.func13, Try.ntmps13
  go_wp2_with (first | (go_at_call 8; with_reducible refine (CP.out _).mono ?_; rintro _ w2 ⟨rfl, rfl⟩) | (go_at_call 25; with_reducible refine CM.out.mono ?_; rintro _ w3 ⟨rfl, hm⟩; have HM := Lib.hid hm; clear hm))
  go_ret2
  exact ⟨rfl, HM.out⟩
set_option maxHeartbeats 1000000 in
set_option maxRecDepth 100000 in
theorem dm_5 (d f g0 n : Int) (s : ByteArray) (ka : Option Addr) (kn kcap : Nat) (kb koff : Nat) (ks : List Int) (w0 wb w : World) (g : Nat) (D : Dk.Disk) (h : MM w0 wb w g D) (hd0 : -9223372036854775808 ≤ d) (hd1 : d ≤ 9223372036854775807) (hp : Dk.pick d = 5) (hk : IR w0 ka kb koff ks) (hkn : ks.length = kn) :
    Calls Try.prog 13 #[.pointer (some ⟨g, 0, none⟩), .agg #[.int .i64 d, .int .i64 f, .int .i64 g0, .int .i64 n, .string s, .slice ka kn kcap]] w fun e w' => e = .returned (.tuple #[.string (⟨#[]⟩), .int .i64 (0)]) ∧ MM w0 wb w' g (Dk.crash D ks) := by
  have CP := Lib.hid (fun w1 : World => pick_any d hd0 hd1 w1)
  rw [hp] at CP
  clear hp
  have hm := h.alloc (.cells #[.int .i64 d, .int .i64 f, .int .i64 g0, .int .i64 n, .string s, .slice ka kn kcap] 32)
  have CM := Lib.hid (mm_crash_arg hm ka kb koff kn kcap ks hk hkn)
  clear h hm
  go_enter Try.func13, Try.ntmps13
  go_wp2_with (first | (go_at_call 8; with_reducible refine (CP.out _).mono ?_; rintro _ w2 ⟨rfl, rfl⟩) | (go_at_call 11; with_reducible refine CM.out.mono ?_; rintro _ w3 ⟨⟨v9, rfl⟩, hm⟩; have HM := Lib.hid hm; clear hm))
  go_ret2
  exact ⟨rfl, HM.out⟩
set_option maxHeartbeats 1000000 in
set_option maxRecDepth 100000 in
theorem dm_6 (d f g0 n : Int) (s : ByteArray) (ka : Option Addr) (kn kcap : Nat) (w0 wb w : World) (g : Nat) (D : Dk.Disk) (h : MM w0 wb w g D) (hd0 : -9223372036854775808 ≤ d) (hd1 : d ≤ 9223372036854775807) (hp : Dk.pick d = 6) (hn1 : n ≤ 9223372036854775807) :
    Calls Try.prog 13 #[.pointer (some ⟨g, 0, none⟩), .agg #[.int .i64 d, .int .i64 f, .int .i64 g0, .int .i64 n, .string s, .slice ka kn kcap]] w fun e w' => e = .returned (.tuple #[.string (⟨#[]⟩), .int .i64 (0)]) ∧ MM w0 wb w' g (Dk.lose D n) := by
  have CP := Lib.hid (fun w1 : World => pick_any d hd0 hd1 w1)
  rw [hp] at CP
  clear hp
  have hm := h.alloc (.cells #[.int .i64 d, .int .i64 f, .int .i64 g0, .int .i64 n, .string s, .slice ka kn kcap] 32)
  have CM := Lib.hid (mm_lose hm n hn1)
  clear h hm
  go_enter Try.func13, Try.ntmps13
  go_wp2_with (first | (go_at_call 8; with_reducible refine (CP.out _).mono ?_; rintro _ w2 ⟨rfl, rfl⟩) | (go_at_call 24; with_reducible refine CM.out.mono ?_; rintro _ w3 ⟨⟨v9, rfl⟩, hm⟩; have HM := Lib.hid hm; clear hm))
  go_ret2
  exact ⟨rfl, HM.out⟩
set_option maxHeartbeats 1000000 in
set_option maxRecDepth 100000 in
theorem dm_7 (d f g0 n : Int) (s : ByteArray) (ka : Option Addr) (kn kcap : Nat) (w0 wb w : World) (g : Nat) (D : Dk.Disk) (h : MM w0 wb w g D) (hd0 : -9223372036854775808 ≤ d) (hd1 : d ≤ 9223372036854775807) (hp : Dk.pick d = 7) :
    Calls Try.prog 13 #[.pointer (some ⟨g, 0, none⟩), .agg #[.int .i64 d, .int .i64 f, .int .i64 g0, .int .i64 n, .string s, .slice ka kn kcap]] w fun e w' => e = .returned (.tuple #[.string (⟨#[]⟩), .int .i64 (0)]) ∧ MM w0 wb w' g (Dk.start D) := by
  have CP := Lib.hid (fun w1 : World => pick_any d hd0 hd1 w1)
  rw [hp] at CP
  clear hp
  have hm := h.alloc (.cells #[.int .i64 d, .int .i64 f, .int .i64 g0, .int .i64 n, .string s, .slice ka kn kcap] 32)
  have CM := Lib.hid (mm_start hm)
  clear h hm
  go_enter Try.func13, Try.ntmps13
  go_wp2_with (first | (go_at_call 8; with_reducible refine (CP.out _).mono ?_; rintro _ w2 ⟨rfl, rfl⟩) | (go_at_call 19; with_reducible refine CM.out.mono ?_; rintro _ w3 ⟨⟨v9, rfl⟩, hm⟩; have HM := Lib.hid hm; clear hm))
  go_ret2
  exact ⟨rfl, HM.out⟩
set_option maxHeartbeats 1000000 in
set_option maxRecDepth 100000 in
theorem dm_8 (d f g0 n : Int) (s : ByteArray) (ka : Option Addr) (kn kcap : Nat) (w0 wb w : World) (g : Nat) (D : Dk.Disk) (h : MM w0 wb w g D) (hd0 : -9223372036854775808 ≤ d) (hd1 : d ≤ 9223372036854775807) (hp : Dk.pick d = 8) :
    Calls Try.prog 13 #[.pointer (some ⟨g, 0, none⟩), .agg #[.int .i64 d, .int .i64 f, .int .i64 g0, .int .i64 n, .string s, .slice ka kn kcap]] w fun e w' => e = .returned (.tuple #[.string (enc (Dk.readE D f).1), .int .i64 (Dk.ec (Dk.readE D f).2)]) ∧ MM w0 wb w' g (D) := by
  have CP := Lib.hid (fun w1 : World => pick_any d hd0 hd1 w1)
  rw [hp] at CP
  clear hp
  have hm := h.alloc (.cells #[.int .i64 d, .int .i64 f, .int .i64 g0, .int .i64 n, .string s, .slice ka kn kcap] 32)
  have CM := Lib.hid (mm_read hm f)
  clear h hm
  obtain ⟨RS, hRS⟩ : ∃ RS, enc (Dk.readE D f).1 = RS := ⟨_, rfl⟩
  rw [hRS] at CM ⊢
  clear hRS
  obtain ⟨RE, hRE⟩ : ∃ RE, Dk.ec (Dk.readE D f).2 = RE := ⟨_, rfl⟩
  rw [hRE] at CM ⊢
  clear hRE
  go_enter Try.func13, Try.ntmps13
  go_wp2_with (first | (go_at_call 8; with_reducible refine (CP.out _).mono ?_; rintro _ w2 ⟨rfl, rfl⟩) | (go_at_call 21; with_reducible refine CM.out.mono ?_; rintro _ w3 ⟨rfl, hm⟩; have HM := Lib.hid hm; clear hm))
  go_ret2
  exact ⟨rfl, HM.out⟩
set_option maxHeartbeats 1000000 in
set_option maxRecDepth 100000 in
theorem dm_9 (d f g0 n : Int) (s : ByteArray) (ka : Option Addr) (kn kcap : Nat) (w0 wb w : World) (g : Nat) (D : Dk.Disk) (h : MM w0 wb w g D) (hd0 : -9223372036854775808 ≤ d) (hd1 : d ≤ 9223372036854775807) (hp : Dk.pick d = 9) :
    Calls Try.prog 13 #[.pointer (some ⟨g, 0, none⟩), .agg #[.int .i64 d, .int .i64 f, .int .i64 g0, .int .i64 n, .string s, .slice ka kn kcap]] w fun e w' => e = .returned (.tuple #[.string (⟨#[]⟩), .int .i64 (0)]) ∧ MM w0 wb w' g (D) := by
  have CP := Lib.hid (fun w1 : World => pick_any d hd0 hd1 w1)
  rw [hp] at CP
  clear hp
  have hm := h.alloc (.cells #[.int .i64 d, .int .i64 f, .int .i64 g0, .int .i64 n, .string s, .slice ka kn kcap] 32)
  have HM := Lib.hid hm
  clear h hm
  go_enter Try.func13, Try.ntmps13
  go_wp2_with (first | (go_at_call 8; with_reducible refine (CP.out _).mono ?_; rintro _ w2 ⟨rfl, rfl⟩))
  go_ret2
  exact ⟨rfl, HM.out⟩
set_option maxHeartbeats 1000000 in
set_option maxRecDepth 100000 in
theorem dm_10 (d f g0 n : Int) (s : ByteArray) (ka : Option Addr) (kn kcap : Nat) (kb koff : Nat) (ks : List Int) (w0 wb w : World) (g : Nat) (D : Dk.Disk) (h : MM w0 wb w g D) (hd0 : -9223372036854775808 ≤ d) (hd1 : d ≤ 9223372036854775807) (hp : Dk.pick d = 10) (hn1 : n ≤ 9223372036854775807) (hk : IR w0 ka kb koff ks) (hkn : ks.length = kn) (hknil : ka = none → kcap = 0) (hkl : kn ≤ 100000000) :
    Calls Try.prog 13 #[.pointer (some ⟨g, 0, none⟩), .agg #[.int .i64 d, .int .i64 f, .int .i64 g0, .int .i64 n, .string s, .slice ka kn kcap]] w fun e w' => e = .returned (.tuple #[.string (⟨#[]⟩), .int .i64 (0)]) ∧ MM w0 wb w' g (Dk.arm D n ks) := by
  have CP := Lib.hid (fun w1 : World => pick_any d hd0 hd1 w1)
  rw [hp] at CP
  clear hp
  have hm := h.alloc (.cells #[.int .i64 d, .int .i64 f, .int .i64 g0, .int .i64 n, .string s, .slice ka kn kcap] 32)
  have CM := Lib.hid (mm_arm_arg hm n hn1 ka kb koff kn kcap ks hk hkn hknil hkl)
  clear h hm
  go_enter Try.func13, Try.ntmps13
  go_wp2_with (first | (go_at_call 8; with_reducible refine (CP.out _).mono ?_; rintro _ w2 ⟨rfl, rfl⟩) | (go_at_call 33; with_reducible refine CM.out.mono ?_; rintro _ w3 ⟨⟨v9, rfl⟩, hm⟩; have HM := Lib.hid hm; clear hm))
  go_ret2
  exact ⟨rfl, HM.out⟩
/-- do, whatever the act. -/
theorem dm_any (a : Dk.Act) (s : ByteArray) (hs1 : s.data.toList = a.s) (ka : Option Addr) (kb koff kn kcap : Nat) (w0 wb w : World) (g : Nat) (D : Dk.Disk) (h : MM w0 wb w g D) (hA : AC w0 a ka kb koff kn kcap) (hs : a.s.length ≤ 1000000) (hq : D.queue.length + a.s.length ≤ 1000000) (hkl : kn ≤ 100000000) :
    Calls Try.prog 13 #[.pointer (some ⟨g, 0, none⟩), .agg #[.int .i64 a.do_, .int .i64 a.f, .int .i64 a.g, .int .i64 a.n, .string s, .slice ka kn kcap]] w fun e w' => e = .returned (.tuple #[.string (enc (Dk.act D a).1.1), .int .i64 (Dk.ec (Dk.act D a).1.2)]) ∧ MM w0 wb w' g (Dk.act D a).2 := by
  have hz := Lib.size_eq s
  rw [hs1] at hz
  obtain ⟨p0, p1⟩ := Dk.pick_range a.do_
  have hc : Dk.pick a.do_ = 0 ∨ Dk.pick a.do_ = 1 ∨ Dk.pick a.do_ = 2 ∨ Dk.pick a.do_ = 3 ∨ Dk.pick a.do_ = 4 ∨ Dk.pick a.do_ = 5 ∨ Dk.pick a.do_ = 6 ∨ Dk.pick a.do_ = 7 ∨ Dk.pick a.do_ = 8 ∨ Dk.pick a.do_ = 9 ∨ Dk.pick a.do_ = 10 := by omega
  rcases hc with e | e | e | e | e | e | e | e | e | e | e
  · have C := dm_0 a.do_ a.f a.g a.n s ka kn kcap w0 wb w g D h hA.d0 hA.d1 e hA.n0 hA.n1 (by omega) (by omega)
    rw [hs1] at C
    refine C.mono fun x w' ⟨h1, h2⟩ => ?_
    unfold Dk.act
    rw [e]
    exact ⟨h1, h2⟩
  · have C := dm_1 a.do_ a.f a.g a.n s ka kn kcap w0 wb w g D h hA.d0 hA.d1 e hA.n0 hA.n1 (by omega) (by omega)
    rw [hs1] at C
    refine C.mono fun x w' ⟨h1, h2⟩ => ?_
    unfold Dk.act
    rw [e]
    exact ⟨h1, h2⟩
  · have C := dm_2 a.do_ a.f a.g a.n s ka kn kcap w0 wb w g D h hA.d0 hA.d1 e
    refine C.mono fun x w' ⟨h1, h2⟩ => ?_
    unfold Dk.act
    rw [e]
    exact ⟨h1, h2⟩
  · have C := dm_3 a.do_ a.f a.g a.n s ka kn kcap w0 wb w g D h hA.d0 hA.d1 e
    refine C.mono fun x w' ⟨h1, h2⟩ => ?_
    unfold Dk.act
    rw [e]
    exact ⟨h1, h2⟩
  · have C := dm_4 a.do_ a.f a.g a.n s ka kn kcap w0 wb w g D h hA.d0 hA.d1 e
    refine C.mono fun x w' ⟨h1, h2⟩ => ?_
    unfold Dk.act
    rw [e]
    exact ⟨h1, h2⟩
  · have C := dm_5 a.do_ a.f a.g a.n s ka kn kcap kb koff a.keep w0 wb w g D h hA.d0 hA.d1 e hA.ir hA.len
    refine C.mono fun x w' ⟨h1, h2⟩ => ?_
    unfold Dk.act
    rw [e]
    exact ⟨h1, h2⟩
  · have C := dm_6 a.do_ a.f a.g a.n s ka kn kcap w0 wb w g D h hA.d0 hA.d1 e hA.n1
    refine C.mono fun x w' ⟨h1, h2⟩ => ?_
    unfold Dk.act
    rw [e]
    exact ⟨h1, h2⟩
  · have C := dm_7 a.do_ a.f a.g a.n s ka kn kcap w0 wb w g D h hA.d0 hA.d1 e
    refine C.mono fun x w' ⟨h1, h2⟩ => ?_
    unfold Dk.act
    rw [e]
    exact ⟨h1, h2⟩
  · have C := dm_8 a.do_ a.f a.g a.n s ka kn kcap w0 wb w g D h hA.d0 hA.d1 e
    refine C.mono fun x w' ⟨h1, h2⟩ => ?_
    unfold Dk.act
    rw [e]
    exact ⟨h1, h2⟩
  · have C := dm_9 a.do_ a.f a.g a.n s ka kn kcap w0 wb w g D h hA.d0 hA.d1 e
    refine C.mono fun x w' ⟨h1, h2⟩ => ?_
    unfold Dk.act
    rw [e]
    exact ⟨h1, h2⟩
  · have C := dm_10 a.do_ a.f a.g a.n s ka kn kcap kb koff a.keep w0 wb w g D h hA.d0 hA.d1 e hA.n1 hA.ir hA.len hA.nil hkl
    refine C.mono fun x w' ⟨h1, h2⟩ => ?_
    unfold Dk.act
    rw [e]
    exact ⟨h1, h2⟩
end Go.Proofs.Ytbelmadbjiiodaa
