package flat

import "testing"

// Variables have slots; what binds nothing stays as it is.
func TestP10_2Slots(t *testing.T) {
	becomes(t,
		row{"", "0/0 0"}, row{"val x = 1", "0/1 (store s0 1 0)"}, row{"val x = 1 val y = x + x", "0/2 (store s0 1 (store s1 (+ s0 s0) 0))"}, row{`val _ = print "a"`, `0/0 (seq (app print "a") 0)`}, row{"exception E exception F of int val x = E", "0/3 (exception E/0 s0 (exception F/1 s1 (store s2 (block 0 s0) 0)))"},
		row{"val x = try 1 with Div => 2 | e => raise e end", "0/1 (store s0 (try s0 1 (catch (if (same (field 0 s0) Div) 2 fail) (raise s0))) 0)"}, row{"val (x, 1) = (2, 1)", "0/3 (store s0 (block 0 2 1) (catch (store s1 (field 0 s0) (store s2 (field 1 s0) (if (is 1 s2) 0 fail))) (raise (block 0 Bind))))"},
		// Terms side by side have the same slots.
		row{"val x = (let val a = 1 in a + a end) + (let val b = 2 val c = 3 in b + c end)", "0/2 (store s0 (+ (store s0 1 (+ s0 s0)) (store s0 2 (store s1 3 (+ s0 s1)))) 0)"}, row{"val a = 1 val x = if a = 2 then let val b = 1 in a + b end else let val c = 2 in a * c end", "0/2 (store s0 1 (store s1 (if (= s0 2) (store s1 1 (+ s0 s1)) (store s1 2 (* s0 s1))) 0))"},
		// A variable that has what another one has needs none.
		row{"val x = 1 val y = x val z = y + x", "0/2 (store s0 1 (store s1 (+ s0 s0) 0))"}, row{"fun f (x as y) = (x, y)", "0/1 (fix s0 (make 1) 0); 0/0 (block 0 arg arg)"}, row{"val e = Div val f = fn x => case x of y => y + 1 end", "0/2 (store s0 (block 0 Div) (store s1 (make 1) 0)); 0/0 (+ arg 1)"},
	)
}

// A function catches what it asks for, and what those within it ask for, each thing once.
func TestP10_2Catching(t *testing.T) {
	becomes(t,
		row{"val f = fn x => x", "0/1 (store s0 (make 1) 0); 0/0 arg"}, row{"val f = fn _ => 1", "0/1 (store s0 (make 1) 0); 0/0 1"}, row{"fun f x = fn y => (x, y) val _ = f 1 2", "0/1 (fix s0 (make 1) (seq (app (app s0 1) 2) 0)); 0/0 (make 2 arg); 1/0 (block 0 f0 arg)"}, row{"fun f a b c = a + c", "0/1 (fix s0 (make 1) 0); 0/0 (make 2 arg); 1/0 (make 3 f0); 1/0 (+ f0 arg)"},
		row{"val a = 1 val f = fn x => fn y => fn z => a", "0/2 (store s0 1 (store s1 (make 1 s0) 0)); 1/0 (make 2 f0); 1/0 (make 3 f0); 1/0 f0"}, row{"val a = 1 val b = 2 val f = fn x => (b, a, b, x)", "0/3 (store s0 1 (store s1 2 (store s2 (make 1 s1 s0) 0))); 2/0 (block 0 f0 f1 f0 arg)"},
		row{"exception E exception F of int val x = [F, fn _ => E]", "0/3 (exception E/0 s0 (exception F/1 s1 (store s2 (block 1 (block 0 (make 1 s1) (block 1 (block 0 (make 2 s0) 0)))) 0))); 1/0 (block 0 f0 arg); 1/0 (block 0 f0)"}, row{"val f = try fn () => 1 with e => fn () => raise e end", "0/1 (store s0 (try s0 (make 1) (make 2 s0)) 0); 0/0 1; 1/0 (raise f0)"},
		// What has two names is one thing; what is there from the beginning is not caught.
		row{"fun f x = let val y = x val z = y in fn () => (x, y, z) end", "0/1 (fix s0 (make 1) 0); 0/0 (make 2 arg); 1/0 (block 0 f0 f0 f0)"}, row{"val f = fn () => (raise Div; print)", "0/1 (store s0 (make 1) 0); 0/0 (seq (raise (block 0 Div)) print)"},
	)
}

// Functions of one fun are in their slots, and catch one another from there.
func TestP10_2Fix(t *testing.T) {
	becomes(t,
		row{"fun f x = f x", "0/1 (fix s0 (make 1 s0) 0); 1/0 (app f0 arg)"}, row{"fun f x = g x and g x = (f x; h x) and h x = 1", "0/3 (fix s0 s1 s2 (make 1 s1) (make 2 s0 s2) (make 3) 0); 1/0 (app f0 arg); 2/0 (seq (app f0 arg) (app f1 arg)); 0/0 1"},
		row{"val a = 1 fun f x = let val b = 2 fun g y = (a; b; x; f; h y) and h y = g y in g end", "0/2 (store s0 1 (fix s1 (make 1 s0 s1) 0)); 2/3 (store s0 2 (fix s1 s2 (make 2 f0 s0 arg f1 s2) (make 3 s1) s1)); 5/0 (seq f0 f1 f2 f3 (app f4 arg)); 1/0 (app f0 arg)"},
	)
}
