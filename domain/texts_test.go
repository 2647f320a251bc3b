package domain_test

import (
	"math/big"
	"strconv"
	"strings"
	"testing"

	"marlinspike/api"
	"marlinspike/fr"
)

// Scalars by 16, of the domain of 8 elements. They were worked out apart from the
// program: the polynomial's scalars are 3^60, 3^120, .., 3^780, the values 7^50,
// 7^100, .., 7^400, and their polynomial came of eight equations; y is 11^80, z
// is 13^90.
const (
	textOfElements = `
		1
		7405e080788de017108bd18f05d503320f8b46cd75769a00f830f7efbfa0a01
		23ed1347970dec00cf664765b00000018f1a400000000001
		45cb225dabe3b9735887f129fbc28da7e4e5f630a4b98b2401766f329f04fbb
		12ab655e9a2ca55660b44d1e5c37b00159aa76fed00000010a11800000000000
		b6b075692a3c754efab90056bda5fce38b1c291f8a89660fa8e70810405f600
		12ab655e9a2ca5563cc739d6c529c4008a442f991fffffff7af7400000000000
		e4eb338bf6e69bf2b2bce0bbc7b8726db5c179bc5b4674ec9fa190cd60fb046`

	textOfValues = `
		6bb2699913dc391e81a1150513c662203f33d9f0fb93005607aec59047f35bc
		37256a2909ad4e990878a947df8aec196f063cb8b30bf3737e57f9b645058c7
		9620cd91cbc79fd1268d186490b8265f00910ce4ca8b9475430378e19701ae2
		1e5fda37383a4b09fbb2341683dd4cac4170c98cb3b495cc2124010c1102a77
		eead8b4159aaa89122f335dea1b11d7594380d055498b2cd8b16243fdc07b2
		4a28b2c7b341981e6306d2ddc998f0c9b822e6a7b372569e2982a08f7320073
		8bb8f65df04d1407e19bc301689f4e9053bf5ac1f5edf64a94af30d9228ded9
		d0dc8a19d4c1aef21eb1989bed4ccf4ca7ce0fdc062a8e0af4f544484e5587c`

	textOfPoly = `
		57587d01db95611708a05fe1759fdaf6472fc5b867f57b52ffe6f30899cbd2b
		540792aa97709050a76ddbc2b98329dad6b215fb7890043655dcb1fd2ca5959
		e3f57fd1d721c13732804e11aeedefda4596e968b17091e18e76d2b9701e496
		f5175964f11599b1e460d2bbe2354ffe7be471c0211a177cf1877145f546f36
		1088559b543e3370c430b1aaf865ed70418f5a000358add24de1a2da1540509e
		f60259b3852f662b0aae6cf470bbcf9d58358c85af1fefd4fd00bc0ef9d28ff
		11a7663b6ca45da4d1a582ea7cd98c715ca284635385a95c6ceb9c5581e2816e
		3824ad8d5f5de729095706bf4c6e985e5613d53812b2f134027a7c704206b5b`

	textOfScalars = `
		a078d33d81e1dcfe11aaa11c9f2102246703e1f4dc07e78dc451c8eab367a05
		9b7fe13a3145e40bf71e78056ee65c2c530477d90d724ea9b90ed6bf16f6983`

	textOfLagrange = `
		65c0a40b790bc5a8e88fd196e70e144be47247a888019b0227e17b71ad974dd
		f7e3b70d0a85996f78e82b001b20255b198785d2c9085edfbf37078b02ea526
		51909bcd04caf8b843096294563a8d356130df0adcc24cd579d61d1eafdd11f
		acaa3806c19cf35ebf9babf5c4ca4e9e20d415296384fee04d04d9fd939d312
		e60232991b52dc860e19aa4bd825eca5486586555e0345a6f70fc20ad058160
		10bc2e11a68a7ba25b68879825c156803dd7456d4b491bf4cb087868a1e4b02f
		1276a5ce3b2816a9ac2370956db1126a1ffdf0f2b3df28a3816af5c7123ae06e
		60810e0cad7e5e884d61e136a4e76fa65f8d819c1e272b8fb93de0e0f9b2fd5`

	textOfQuotient = `
		ac4dc66a3ea16460070cc20d930f9c3dc64fd3d8d6a4219ca82c563bf4b8cba
		1edd0b1e17b310385eb83409fd7ebe0d584608e6879a1e7926d464cea76159d
		ed4c16f9d6ca4c16af629776d3d67ba30762c0957c2fb5e093b73787d463686
		30b4fbd05f660ef4f18d5cd9d041643e6c81127ef2a4fa052a692f66d6b8d7d
		106a5d6159d7e6f5d8250cb69215be3c8dd6ba97538469b8c2ff8dbfc6279114`

	textOfRest = `
		ac4dc66a3ea16460070cc20d930f9c3dc64fd3e1663670899706d62522d826b
		1edd0b1e17b3103cf352cf7399701a85f357ed14407fd97f35e43389b6459fe
		b2990d59fe1be9d1473caa9c29fd26ba8be010b1d8d4aede58266672b040abf
		92b35464ba5cb43808ab9ace1eb65781a14ada9fc9a2d7af1e96943e4842330
		9ad8bb9434d9418ca8652450fd5ade0c28dfb0aa5e1f15138fcfde3e9cf8b60
		2e8849d3631f1a6157cc075d976f39d829a03d0606d8df42e715e0dd14b9039
		98fbbda168b98ce1e9c337024b7f1922867af7fd0b4411673362f913b2c862f
		79017505ecbc3dda6f33511a08bafc5a4f5c97c342292a33fd06090111d899f`
)

// told are the scalars of a text.
func told(t *testing.T, text string) (l []fr.El) {
	t.Helper()
	for _, word := range strings.Fields(text) {
		n, is := new(big.Int).SetString(word, 16)
		if !is {
			t.Fatalf("%s is no number", word)
		}
		x, e := fr.Reduce(n.Bytes())
		if e != api.OK {
			t.Fatal(e)
		}
		l = append(l, x)
	}
	return l
}

// powers are a number's by step, twice that, ..
func powers(base int64, step, count int) []fr.El {
	l := make([]fr.El, count)
	for i := range l {
		l[i] = power(fr.Of(base), step*(i+1))
	}
	return l
}

func TestNumbersThatWereWorkedOutApart(t *testing.T) {
	d := of(t, 8)
	p, y, z := powers(3, 60, 13), power(fr.Of(11), 80), power(fr.Of(13), 90)
	for i, x := range told(t, textOfElements) {
		wantScalar(t, "At "+strconv.Itoa(i), d.At(i), x)
	}
	for i, x := range told(t, textOfLagrange) {
		wantScalar(t, "Lagrange of "+strconv.Itoa(i), d.Lagrange(i, z), x)
	}
	wantAll(t, "V and U", []fr.El{d.V(z), d.U(y, z)}, told(t, textOfScalars))
	wantAll(t, "Values", d.Values(p), told(t, textOfValues))
	want(t, "Poly", wantPoly(t, "Poly", d, powers(7, 50, 8)), told(t, textOfPoly))
	quotient, left := d.DivV(p)
	want(t, "the quotient", quotient, told(t, textOfQuotient))
	want(t, "the rest", left, told(t, textOfRest))
	want(t, "MulV", d.MulV(told(t, textOfQuotient)), minus(p, told(t, textOfRest)))
}

// minus is the difference, place by place.
func minus(p, q []fr.El) []fr.El {
	l := zeros(max(len(p), len(q)))
	for i := range l {
		l[i] = at(p, i).Sub(at(q, i))
	}
	return l
}
